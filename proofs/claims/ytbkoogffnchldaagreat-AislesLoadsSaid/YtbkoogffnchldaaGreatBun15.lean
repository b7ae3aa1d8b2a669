/- Texts of this proof, joined: AisRefE. -/
import Derived.Test.YtbkoogffnchldaaGreatBun14
/- Stage 20: the document's Enter. -/
namespace Go.Proofs.YtbkoogffnchldaaGreat
open Go.RowKit

theorem insR_len {α : Type} (f : α → Int) (s : α) (l : List α) : (insR f s l).1.length ≤ l.length + 1 := by
  obtain ⟨h1, h2⟩ := insR_perm f s l
  cases h : (insR f s l).2 with
  | true => rw [(h1 h).length_eq]; simp
  | false => rw [h2 h]; omega
theorem sts_put {T : Tb} {Ss : List Sr} (h : Ss.map stp = T.sts) {t : Int} (hn : t ∉ T.toks) (w : List Int) (s : Sr) (hs : stp s = (t, (0 : Int), w)) : (insG Sr.token s Ss).map stp = (T.put t w).sts := by
  rw [insG_map stp Sr.token Prod.fst (fun _ => rfl), h, hs]
  unfold Tb.sts
  have e : T.toks.map (fun x => (x, (T.got x : Int), T.want x)) = T.toks.map (fun x => (x, ((T.put t w).got x : Int), (T.put t w).want x)) := by
    refine List.map_congr_left fun x hx => ?_
    have hxt : x ≠ t := fun e => hn (e ▸ hx)
    show _ = (x, ((upF T.got t 0 x : Nat) : Int), upF T.want t w x)
    rw [upF_ne _ _ hxt, upF_ne _ _ hxt]
  have e2 : (t, (0 : Int), w) = (fun x => (x, ((T.put t w).got x : Int), (T.put t w).want x)) t := by
    show _ = (t, ((upF T.got t 0 t : Nat) : Int), upF T.want t w t)
    rw [upF_same, upF_same]
    rfl
  rw [e, e2, ← insG_map (fun x => (x, ((T.put t w).got x : Int), (T.put t w).want x)) (fun x => x) Prod.fst (fun _ => rfl)]
  rfl
theorem enter_no {T : Tb} {t : Int} {l : List Int} {er : Int} (h : T.enterE t l = er) (h0 : er ≠ 0) : T.enter t l = T := by
  unfold Tb.enter
  rw [if_neg (by rw [h]; exact h0)]
set_option maxHeartbeats 16000000 in
set_option maxRecDepth 100000 in
theorem refEnter20_any {G : Nat → Prop} {W : World} {vl vs : Value} {T : Tb} (t : Int) (va : Value) (l : List Int) (h : DocAt G W vl vs T) (hok : T.Ok) (hi : IntsAt W va l) (hl : l.length ≤ 1000) (ht : In18 t) :
    Calls Tryz.prog 10 #[tbv vl vs, .int .i64 t, va] W fun e w' => ∃ v1 v2, e = .returned (.tuple #[tbv v1 v2, .int .i64 (T.enterE t l)]) ∧ ∃ G', DocAt G' w' v1 v2 (T.enter t l) ∧ (∀ k, G' k → G k ∨ W.heap.size ≤ k) ∧ Below W.heap.size W w' := by
  obtain ⟨Ls, Ss, hD⟩ := h
  obtain ⟨er, her⟩ : ∃ er, T.enterE t l = er := ⟨_, rfl⟩
  obtain ⟨T', hT'⟩ : ∃ T', T.enter t l = T' := ⟨_, rfl⟩
  rw [her, hT']
  have hL1 : Ls.length ≤ 1000 := by rw [lks_len hD.le]; have := may_len hok.may; omega
  have hS1 : Ss.length ≤ 1000 := by rw [sts_len hD.se]; have := hok.few; omega
  have HERR := Lib.hid her
  have HT' := Lib.hid hT'
  have HTE := Lib.hid (show ∀ c, er = c → c ≠ 0 → T = T' from fun c h1 h2 => (enter_no (her.trans h1) h2).symm.trans hT')
  have HOK := Lib.hid hok
  have HD := Lib.hid hD
  have HL1 := Lib.hid hL1
  have HS1 := Lib.hid hS1
  have HI := Lib.hid hi
  have HL := Lib.hid hl
  have HIN := Lib.hid ht
  obtain ⟨al, cl, evl⟩ := RowsAt.form hD.locks.rows
  obtain ⟨a2, cs, evs⟩ := RowsAt.form hD.seats.rows
  subst evl evs
  obtain ⟨aw, cw, rfl⟩ := hi.form
  have hTw := two20_new W (.slice al Ls.length cl) (.slice a2 Ss.length cs)
  have hsz : ((W.alloc (.cells #[.slice al Ls.length cl, .slice a2 Ss.length cs] 38)).alloc (.cells #[.slice none 0 0, .slice none 0 0] 38)).heap.size = W.heap.size + 2 := by simp
  clear her hT' hok hD hL1 hS1 hi hl ht
  go_enter Tryz.func10, Tryz.ntmps10
  go_upto_region 1 with fail
  generalize (W.alloc (.cells #[.slice al Ls.length cl, .slice a2 Ss.length cs] 38)).alloc (.cells #[.slice none 0 0, .slice none 0 0] 38) = w2 at *
  have HTW := Lib.hid hTw
  have HSZ := Lib.hid hsz
  have GR := Lib.hid (refRight_any (.slice aw l.length cw) l w2 (HI.out.below hTw.below) HL.out)
  clear hsz
  by_cases h1 : t < 1
  · have HER := Lib.hid (show er = 1 from HERR.out.symm.trans (by unfold Tb.enterE; rw [if_pos (.inl h1)]))
    have htf := hTw
    have z0 := htf.ans.free 0 rfl
    have z1 := htf.ans.free 1 rfl
    have n0 := htf.ans.cell 0 rfl
    have n1 := htf.ans.cell 1 rfl
    have c0 := htf.box.cell 0 rfl
    have c1 := htf.box.cell 1 rfl
    obtain ⟨U, hBF⟩ := htf.put (.slice al Ls.length cl) (.slice a2 Ss.length cs)
    have r0 := U.cell 0 rfl
    have r1 := U.cell 1 rfl
    have hdf : DocAt G _ (.slice al Ls.length cl) (.slice a2 Ss.length cs) T := ⟨Ls, Ss, HD.out.kept hBF⟩
    rw [HTE.out _ HER.out (by decide)] at hdf
    have HDF := Lib.hid hdf
    have HBF := Lib.hid hBF
    clear htf U hBF hdf
    clear hTw
    go_wp2
    refine bodyPost_ret (v := .tuple #[tbv (.slice al Ls.length cl) (.slice a2 Ss.length cs), .int .i64 1]) ?_ rfl ⟨_, _, congrArg (fun b => Ending.returned (.tuple #[tbv (.slice al Ls.length cl) (.slice a2 Ss.length cs), .int .i64 b])) HER.out.symm, G, HDF.out, fun k hk => .inl hk, HBF.out⟩
    simp [results, Tryz.results10, go_sem, r0, r1]
  have HN1 := Lib.hid h1
  cases hq : rightB l with
  | false =>
    have HER := Lib.hid (show er = 1 from HERR.out.symm.trans (by unfold Tb.enterE; rw [if_pos (.inr hq)]))
    rw [hq] at GR
    clear hTw hq
    go_upto_region 2 with (go_at_call 25; (with_reducible refine GR.out.mono ?_); rintro e w3 ⟨rfl, b3⟩; have htf := HTW.out.kept b3; clear b3)
    have z0 := htf.ans.free 0 rfl
    have z1 := htf.ans.free 1 rfl
    have n0 := htf.ans.cell 0 rfl
    have n1 := htf.ans.cell 1 rfl
    have c0 := htf.box.cell 0 rfl
    have c1 := htf.box.cell 1 rfl
    obtain ⟨U, hBF⟩ := htf.put (.slice al Ls.length cl) (.slice a2 Ss.length cs)
    have r0 := U.cell 0 rfl
    have r1 := U.cell 1 rfl
    have hdf : DocAt G _ (.slice al Ls.length cl) (.slice a2 Ss.length cs) T := ⟨Ls, Ss, HD.out.kept hBF⟩
    rw [HTE.out _ HER.out (by decide)] at hdf
    have HDF := Lib.hid hdf
    have HBF := Lib.hid hBF
    clear htf U hBF hdf
    go_wp2
    refine bodyPost_ret (v := .tuple #[tbv (.slice al Ls.length cl) (.slice a2 Ss.length cs), .int .i64 1]) ?_ rfl ⟨_, _, congrArg (fun b => Ending.returned (.tuple #[tbv (.slice al Ls.length cl) (.slice a2 Ss.length cs), .int .i64 b])) HER.out.symm, G, HDF.out, fun k hk => .inl hk, HBF.out⟩
    simp [results, Tryz.results10, go_sem, r0, r1]
  | true =>
    rw [hq] at GR
    have HQ := Lib.hid hq
    clear hTw hq
    go_wp2_with (go_at_call 25; (with_reducible refine GR.out.mono ?_); rintro e w3 ⟨rfl, b3⟩; have HT3 := Lib.hid (HTW.out.kept b3); have HZ3 := Lib.hid (show W.heap.size + 2 ≤ w3.heap.size by have := b3.size; rw [HSZ.out] at this; exact this); clear b3)
    go_loopw [8] (fun iv wr => ∃ i : Nat, i ≤ l.length ∧ iv = .int .i64 i ∧ (∀ x ∈ l.take i, x ∈ T.ids) ∧ Below w3.heap.size w3 wr) (fun iv _ => l.length - (intOf iv).toNat)
    case atStart => exact ⟨0, by omega, rfl, fun x hx => (by simp at hx), Below.refl _ _⟩
    case round =>
      obtain ⟨i, hi, rfl, hall, hB⟩ := hrel
      have htq := HT3.out.kept hB
      have HTQ := Lib.hid htq
      have HALL := Lib.hid hall
      have HB := Lib.hid hB
      have c0 := htq.box.cell 0 rfl
      have c1 := htq.box.cell 1 rfl
      by_cases hlt : i < l.length
      · have HLT := Lib.hid hlt
        obtain ⟨g, o, cc, e, _, _, p0⟩ := (HI.out.below htq.below).spot i hlt
        cases e
        have HLK := Lib.hid fun (w' : World) (hb : Below wr.heap.size wr w') => refLock20_any (.slice al Ls.length cl) a2 Ss.length cs Ls l[i] w' (((HD.out.kept htq.below).kept hb).locks.rows) (by have := HL1.out; omega)
        rw [lks_ids HD.out.le] at HLK
        have k2 : (0 : Int) ≤ (i : Int) := by omega
        have k3 : (i : Int) < (l.length : Int) := by omega
        have k4 : (i : Int) ≤ 1000 := by have := HL.out; omega
        by_cases hm : l[i] ∈ T.ids
        · have HALL2 := Lib.hid (show ∀ x ∈ l.take (i + 1), x ∈ T.ids from fun x hx => by
            rw [List.take_succ_eq_append_getElem hlt] at hx
            rcases List.mem_append.1 hx with hx | hx
            · exact hall x hx
            · rw [List.mem_singleton.1 hx]; exact hm)
          have hpos := plc_ge.2 hm
          generalize plcL T.ids l[i] = pl at *
          generalize l[i] = x at *
          have k5 : decide (pl < 0) = false := by simp; omega
          clear hall hB htq hm hi
          go_upto_region 6 with fail
          refine wp_region_calm0 (by kernel_rfl) (by kernel_rfl) fun M => ?_
          have e0 := fun n : In M.w => n.cell (M.cell c0)
          have e1 := fun n : In M.w => n.cell (M.cell c1)
          have e2 := fun n : In M.w => n.cell (M.cell p0)
          have HL2 := fun n : In M.w => HLK.out n.w (M.h.trans (n.h.mono M.h.size))
          repeat (go_big_quiet_step ((go_at_call 37; with_reducible exact In.call (HL2 _))))
          refine wpQuiet_nil ?_
          clear e0 e1 e2 HL2 M
          intro w5 hb5
          have HB5 := Lib.hid (HB.out.trans (hb5.mono HB.out.size))
          clear hb5 c0 c1 p0
          go_wp2
          go_roundw
          case rel => exact ⟨i + 1, by have := HLT.out; omega, by go_num, HALL2.out, HB5.out⟩
          case measure => have := HLT.out; simp [intOf] <;> omega
        · rw [plc_none hm] at HLK
          have HER := Lib.hid (show er = 7 from HERR.out.symm.trans (by unfold Tb.enterE; rw [if_neg (fun h => h.elim (fun h => by have := HN1.out; omega) fun h => by rw [HQ.out] at h; cases h), if_pos (Bool.eq_false_iff.2 fun h => hm ((within_iff _ _).1 h _ (List.getElem_mem hlt)))]))
          generalize l[i] = x at *
          clear hall hB htq hm hi
          go_upto_region 6 with fail
          refine wp_region_calm0 (by kernel_rfl) (by kernel_rfl) fun M => ?_
          have e0 := fun n : In M.w => n.cell (M.cell c0)
          have e1 := fun n : In M.w => n.cell (M.cell c1)
          have e2 := fun n : In M.w => n.cell (M.cell p0)
          have HL2 := fun n : In M.w => HLK.out n.w (M.h.trans (n.h.mono M.h.size))
          repeat (go_big_quiet_step ((go_at_call 37; with_reducible exact In.call (HL2 _))))
          refine wpQuiet_nil ?_
          clear e0 e1 e2 HL2 M
          intro w5 hb5
          have htf := HTQ.out.kept hb5
          clear hb5 c0 c1 p0
          have z0 := htf.ans.free 0 rfl
          have z1 := htf.ans.free 1 rfl
          have n0 := htf.ans.cell 0 rfl
          have n1 := htf.ans.cell 1 rfl
          have c0 := htf.box.cell 0 rfl
          have c1 := htf.box.cell 1 rfl
          obtain ⟨U, hBF⟩ := htf.put (.slice al Ls.length cl) (.slice a2 Ss.length cs)
          have r0 := U.cell 0 rfl
          have r1 := U.cell 1 rfl
          have hdf : DocAt G _ (.slice al Ls.length cl) (.slice a2 Ss.length cs) T := ⟨Ls, Ss, HD.out.kept hBF⟩
          rw [HTE.out _ HER.out (by decide)] at hdf
          have HDF := Lib.hid hdf
          have HBF := Lib.hid hBF
          clear htf U hBF hdf
          go_wp2
          refine bodyPost_ret (v := .tuple #[tbv (.slice al Ls.length cl) (.slice a2 Ss.length cs), .int .i64 7]) ?_ rfl ⟨_, _, congrArg (fun b => Ending.returned (.tuple #[tbv (.slice al Ls.length cl) (.slice a2 Ss.length cs), .int .i64 b])) HER.out.symm, G, HDF.out, fun k hk => .inl hk, HBF.out⟩
          simp [results, Tryz.results10, go_sem, r0, r1]
      · have hke : i = l.length := by omega
        subst hke
        rw [List.take_length] at hall
        have HW := Lib.hid ((within_iff _ _).2 hall)
        have HST := Lib.hid (refSeated20_any al Ls.length cl (.slice a2 Ss.length cs) Ss t wr ((HD.out.kept htq.below).seats.rows) (by have := HS1.out; omega))
        rw [sts_toks HD.out.se] at HST
        clear hall hB htq hlt hi
        by_cases hm : t ∈ T.toks
        · have HER := Lib.hid (show er = 6 from HERR.out.symm.trans (by unfold Tb.enterE; rw [if_neg (fun h => h.elim (fun h => by have := HN1.out; omega) fun h => by rw [HQ.out] at h; cases h), if_neg (by rw [HW.out]; simp), if_pos hm]))
          have hpos := plc_ge.2 hm
          generalize plcL T.toks t = pl at *
          clear hm
          go_upto_region 9 with (go_at_call 38; (with_reducible refine HST.out.mono ?_); rintro e w5 ⟨rfl, hb5⟩; have htf := HTQ.out.kept hb5; clear hb5 c0 c1)
          have z0 := htf.ans.free 0 rfl
          have z1 := htf.ans.free 1 rfl
          have n0 := htf.ans.cell 0 rfl
          have n1 := htf.ans.cell 1 rfl
          have c0 := htf.box.cell 0 rfl
          have c1 := htf.box.cell 1 rfl
          obtain ⟨U, hBF⟩ := htf.put (.slice al Ls.length cl) (.slice a2 Ss.length cs)
          have r0 := U.cell 0 rfl
          have r1 := U.cell 1 rfl
          have hdf : DocAt G _ (.slice al Ls.length cl) (.slice a2 Ss.length cs) T := ⟨Ls, Ss, HD.out.kept hBF⟩
          rw [HTE.out _ HER.out (by decide)] at hdf
          have HDF := Lib.hid hdf
          have HBF := Lib.hid hBF
          clear htf U hBF hdf
          go_wp2
          refine bodyPost_ret (v := .tuple #[tbv (.slice al Ls.length cl) (.slice a2 Ss.length cs), .int .i64 6]) ?_ rfl ⟨_, _, congrArg (fun b => Ending.returned (.tuple #[tbv (.slice al Ls.length cl) (.slice a2 Ss.length cs), .int .i64 b])) HER.out.symm, G, HDF.out, fun k hk => .inl hk, HBF.out⟩
          simp [results, Tryz.results10, go_sem, r0, r1]
        · rw [plc_none hm] at HST
          by_cases h64 : 64 ≤ Ss.length
          · have HER := Lib.hid (show er = 9 from HERR.out.symm.trans (by unfold Tb.enterE; rw [if_neg (fun h => h.elim (fun h => by have := HN1.out; omega) fun h => by rw [HQ.out] at h; cases h), if_neg (by rw [HW.out]; simp), if_neg hm, if_pos (by rw [← sts_len HD.out.se]; exact h64)]))
            have k64 : (64 : Int) ≤ (Ss.length : Int) := by omega
            clear hm h64
            go_upto_region 10 with (go_at_call 38; (with_reducible refine HST.out.mono ?_); rintro e w5 ⟨rfl, hb5⟩; have htf := HTQ.out.kept hb5; clear hb5 c0 c1)
            have z0 := htf.ans.free 0 rfl
            have z1 := htf.ans.free 1 rfl
            have n0 := htf.ans.cell 0 rfl
            have n1 := htf.ans.cell 1 rfl
            have c0 := htf.box.cell 0 rfl
            have c1 := htf.box.cell 1 rfl
            obtain ⟨U, hBF⟩ := htf.put (.slice al Ls.length cl) (.slice a2 Ss.length cs)
            have r0 := U.cell 0 rfl
            have r1 := U.cell 1 rfl
            have hdf : DocAt G _ (.slice al Ls.length cl) (.slice a2 Ss.length cs) T := ⟨Ls, Ss, HD.out.kept hBF⟩
            rw [HTE.out _ HER.out (by decide)] at hdf
            have HDF := Lib.hid hdf
            have HBF := Lib.hid hBF
            clear htf U hBF hdf
            go_wp2
            refine bodyPost_ret (v := .tuple #[tbv (.slice al Ls.length cl) (.slice a2 Ss.length cs), .int .i64 9]) ?_ rfl ⟨_, _, congrArg (fun b => Ending.returned (.tuple #[tbv (.slice al Ls.length cl) (.slice a2 Ss.length cs), .int .i64 b])) HER.out.symm, G, HDF.out, fun k hk => .inl hk, HBF.out⟩
            simp [results, Tryz.results10, go_sem, r0, r1]
          · have HER := Lib.hid (show er = 0 from HERR.out.symm.trans (by unfold Tb.enterE; rw [if_neg (fun h => h.elim (fun h => by have := HN1.out; omega) fun h => by rw [HQ.out] at h; cases h), if_neg (by rw [HW.out]; simp), if_neg hm, if_neg (by rw [← sts_len HD.out.se]; exact h64)]))
            have k64 : ¬ (64 : Int) ≤ (Ss.length : Int) := by omega
            have HM := Lib.hid hm
            clear hm h64
            obtain ⟨i0, hi0, hz0, hz1, hz2⟩ := info_parts info_int
            go_upto_region 12 with (go_at_call 38; (with_reducible refine HST.out.mono ?_); rintro e w5 ⟨rfl, hb5⟩; clear c0 c1; have c1 := (HTQ.out.kept hb5).box.cell 1 rfl; have HT5 := Lib.hid (HTQ.out.kept hb5); have HZ5 := Lib.hid (Nat.le_trans HZ3.out (Nat.le_trans HB.out.size hb5.size)); clear hb5)
            clear c1
            have HO := Lib.hid (OwnR.base13 (OwnR.empty w5 1 csI 3 w5.heap.size rfl) HZ5.out)
            have hal := (Below.refl w5.heap.size w5).alloc (Nat.le_refl _) (.cells #[] 3)
            have HT5a := Lib.hid (HT5.out.kept hal)
            have HA1 := Lib.hid (RowsAt.kept (IntsAt.rows (HI.out.below HT5.out.below)) hal)
            have HZ5a := Lib.hid (Nat.le_trans HZ5.out hal.size)
            obtain ⟨mm, hmm⟩ : ∃ mm, ([] ++ l).length = mm := ⟨_, rfl⟩
            have HMM := Lib.hid hmm
            clear hal hmm
            go_upto_region 14 with (at_builtin; refine wpList_append_rows csI_len (by decide) csI_one13 rfl _ _ 27 rfl (W.heap.size + 2) 3 i0 (.int .i64 0) 8 Tryz.underlying27 hi0 hz0 hz1 hz2 rfl _ _ rfl HO.out _ l rfl HA1.out (by have := HL.out; unfold maxLen; simp; omega) (by have := HL.out; simp; omega) HZ5a.out ?_; intro v6 w6 o6 g6; have HO6 := Lib.hid o6; have hb6 := (Below.refl (W.heap.size + 2) _).grown g6 HZ5a.out (fun k hk => (HO.out.lt k hk).1); have HT6 := Lib.hid (HT5a.out.only (Only.grown (F := fun k => W.heap.size + 2 ≤ k) g6 fun k hk => (HO.out.lt k hk).1) fun k hk => hk); have HZ6 := Lib.hid hb6.size; obtain ⟨a6, c6, e6⟩ := RowsAt.form (OwnR.rows csI_len o6); rw [HMM.out] at e6; subst e6; clear o6 g6 hb6)
            obtain rfl : l.length = mm := by simpa using HMM.out
            have HO6 := Lib.hid (show OwnI w6 (W.heap.size + 2) (.slice a6 l.length c6) l from by have := HO6.out; rwa [List.nil_append] at this)
            have hal := (Below.refl w6.heap.size w6).alloc (Nat.le_refl _) (.cells #[.int .i64 t, .int .i64 0, .slice a6 l.length c6] 68)
            have HB9 := Lib.hid (Blk.new w6 [.int .i64 t, .int .i64 0, .slice a6 l.length c6] 68)
            have HT7 := Lib.hid (HT6.out.kept hal)
            have HO7 := Lib.hid (OwnR.kept HO6.out hal)
            have HZ7 := Lib.hid (Nat.le_trans (Nat.le_trans HZ5a.out HZ6.out) hal.size)
            have HB9z := Lib.hid (show w6.heap.size < (w6.alloc (.cells #[.int .i64 t, .int .i64 0, .slice a6 l.length c6] 68)).heap.size by simp)
            have HZ6b := Lib.hid (show W.heap.size + 2 ≤ w6.heap.size from Nat.le_trans HZ5a.out HZ6.out)
            clear hal HO HA1 HZ5a HT5a HZ5 HT5 HTQ HB HT6 HZ6 HO6 HMM
            generalize w6.alloc (.cells #[.int .i64 t, .int .i64 0, .slice a6 l.length c6] 68) = w7 at *
            generalize w6.heap.size = b9 at *
            go_wp2
            go_loopw [10, 11, 12] (fun sv dv iv wr => ∃ i : Nat, i ≤ Ss.length ∧ iv = .int .i64 i ∧ dv = .bool (insR Sr.token ⟨t, 0, a6, c6, l⟩ (Ss.take i)).2 ∧ OwnR wr w7.heap.size 68 3 csSt sv (insR Sr.token ⟨t, 0, a6, c6, l⟩ (Ss.take i)).1 ∧ Below w7.heap.size w7 wr) (fun _ _ iv _ => Ss.length - (intOf iv).toNat)
            case atStart => exact ⟨0, by omega, rfl, rfl, OwnR.nil _ _ _ _ _, Below.refl _ _⟩
            case round =>
              obtain ⟨i, hi, rfl, rfl, ho, hB⟩ := hrel
              have HO3 := Lib.hid ho
              have HB3 := Lib.hid hB
              have htq := HT7.out.kept hB
              have c1 := htq.box.cell 1 rfl
              have hb9 := HB9.out.kept hB
              have s0 := hb9.cell 0 rfl
              have s1 := hb9.cell 1 rfl
              have s2 := hb9.cell 2 rfl
              by_cases hlt : i < Ss.length
              · obtain ⟨g, o, cc, e, _, hgz, p0, p1, p2⟩ := RowsAt.atS (HD.out.kept HT7.out.below).seats.rows i hlt
                cases e
                have HGZ := Lib.hid hgz
                have HPP := Lib.hid (And.intro p0 (And.intro p1 p2))
                have p0 := (hB.cell (p := ⟨g, o + i * 3, none⟩) hgz).trans p0
                have p1 := (hB.cell (p := ⟨g, o + i * 3 + 1, none⟩) hgz).trans p1
                have p2 := (hB.cell (p := ⟨g, o + i * 3 + 2, none⟩) hgz).trans p2
                have HLT := Lib.hid hlt
                have K0 : (0 : Int) ≤ (i : Int) := by omega
                have K1 : (i : Int) < (Ss.length : Int) := by omega
                have K2 : (i : Int) ≤ 1000 := by have := HS1.out; omega
                have hnx := insR_next Sr.token (⟨t, 0, a6, c6, l⟩ : Sr) Ss i hlt
                have hfl := insR_len Sr.token (⟨t, 0, a6, c6, l⟩ : Sr) (Ss.take i)
                rw [List.length_take] at hfl
                obtain ⟨acc, dn, hR⟩ : ∃ acc dn, insR Sr.token (⟨t, 0, a6, c6, l⟩ : Sr) (Ss.take i) = (acc, dn) := ⟨_, _, rfl⟩
                rw [hR] at hnx hfl HO3
                rw [hR]
                simp only at hnx hfl HO3
                have HFL := Lib.hid (show acc.length ≤ 1001 by have := HS1.out; omega)
                generalize Ss[i]'hlt = x at *
                obtain ⟨tok, got, axw, cxw, want⟩ := x
                dsimp only [Sr.v] at p0 p1 p2 hnx HPP
                obtain ⟨aT, cT, e⟩ := RowsAt.form (OwnR.rows csSt_len HO3.out)
                subst e
                clear ho hB hfl hR htq hb9 hi hgz
                cases dn with
                | true =>
                  have HNX := Lib.hid (show insR Sr.token (⟨t, 0, a6, c6, l⟩ : Sr) (Ss.take (i + 1)) = (acc ++ [⟨tok, got, axw, cxw, want⟩], true) from hnx)
                  clear hnx
                  go_wp2_with (at_builtin; refine appS ⟨tok, got, axw, cxw, want⟩ HO3.out HB3.out.size (by have := HFL.out; omega) rfl _ _ rfl rfl rfl ?_; intro v6 w6 o6 b6 _ _; have HO6 := Lib.hid o6; have HB6 := Lib.hid (HB3.out.trans b6); clear o6 b6 c1 p0 p1 p2 s0 s1 s2)
                  go_roundw
                  case rel => exact ⟨i + 1, by have := HLT.out; omega, by go_num, by rw [HNX.out], by rw [HNX.out]; exact HO6.out, HB6.out⟩
                  case measure => have := HLT.out; simp [intOf] <;> omega
                | false =>
                  by_cases hx : t < tok
                  · have HNX := Lib.hid (show insR Sr.token (⟨t, 0, a6, c6, l⟩ : Sr) (Ss.take (i + 1)) = (acc ++ [⟨t, 0, a6, c6, l⟩] ++ [⟨tok, got, axw, cxw, want⟩], true) from by rw [hnx]; unfold insStep; rw [if_pos (by simpa using hx)])
                    clear hnx
                    go_upto_region 20 with (at_builtin; refine appS ⟨t, 0, a6, c6, l⟩ HO3.out HB3.out.size (by have := HFL.out; omega) rfl _ _ rfl rfl rfl ?_; intro v6 w6 o6 b6 _ _; have HO6 := Lib.hid o6; have HB6 := Lib.hid (HB3.out.trans b6); clear o6 b6 c1 p0 p1 p2 s0 s1 s2)
                    have htq := HT7.out.kept HB6.out
                    have c1 := htq.box.cell 1 rfl
                    have p0 := (HB6.out.cell (p := ⟨g, o + i * 3, none⟩) HGZ.out).trans HPP.out.1
                    have p1 := (HB6.out.cell (p := ⟨g, o + i * 3 + 1, none⟩) HGZ.out).trans HPP.out.2.1
                    have p2 := (HB6.out.cell (p := ⟨g, o + i * 3 + 2, none⟩) HGZ.out).trans HPP.out.2.2
                    obtain ⟨aT2, cT2, e⟩ := RowsAt.form (OwnR.rows csSt_len HO6.out)
                    subst e
                    clear htq
                    go_wp2_with (at_builtin; refine appS ⟨tok, got, axw, cxw, want⟩ HO6.out HB6.out.size (by have := HFL.out; simp; omega) rfl _ _ rfl rfl rfl ?_; intro v7 w7' o7 b7 _ _; have HO8 := Lib.hid o7; have HB8 := Lib.hid (HB6.out.trans b7); clear o7 b7 c1 p0 p1 p2)
                    go_roundw
                    case rel => exact ⟨i + 1, by have := HLT.out; omega, by go_num, by rw [HNX.out], by rw [HNX.out]; exact HO8.out, HB8.out⟩
                    case measure => have := HLT.out; simp [intOf] <;> omega
                  · have HNX := Lib.hid (show insR Sr.token (⟨t, 0, a6, c6, l⟩ : Sr) (Ss.take (i + 1)) = (acc ++ [⟨tok, got, axw, cxw, want⟩], false) from by rw [hnx]; unfold insStep; rw [if_neg (by simpa using hx)])
                    clear hnx
                    go_wp2_with (at_builtin; refine appS ⟨tok, got, axw, cxw, want⟩ HO3.out HB3.out.size (by have := HFL.out; omega) rfl _ _ rfl rfl rfl ?_; intro v6 w6 o6 b6 _ _; have HO6 := Lib.hid o6; have HB6 := Lib.hid (HB3.out.trans b6); clear o6 b6 c1 p0 p1 p2 s0 s1 s2)
                    go_roundw
                    case rel => exact ⟨i + 1, by have := HLT.out; omega, by go_num, by rw [HNX.out], by rw [HNX.out]; exact HO6.out, HB6.out⟩
                    case measure => have := HLT.out; simp [intOf] <;> omega
              · have hke : i = Ss.length := by omega
                subst hke
                have e1 : Ss.take Ss.length = Ss := List.take_length
                rw [e1] at HO3
                rw [e1]
                obtain ⟨D, hDd⟩ : ∃ D, insG Sr.token (⟨t, 0, a6, c6, l⟩ : Sr) Ss = D := ⟨_, rfl⟩
                have hDp := insG_perm Sr.token (⟨t, 0, a6, c6, l⟩ : Sr) Ss
                have hse := sts_put HD.out.se HM.out l ⟨t, 0, a6, c6, l⟩ rfl
                rw [hDd] at hDp hse
                have hfl := insR_len Sr.token (⟨t, 0, a6, c6, l⟩ : Sr) Ss
                obtain ⟨acc, dn, hR⟩ : ∃ acc dn, insR Sr.token (⟨t, 0, a6, c6, l⟩ : Sr) Ss = (acc, dn) := ⟨_, _, rfl⟩
                unfold insG at hDd
                rw [hR] at HO3 hDd hfl
                rw [hR]
                simp only at HO3 hDd hfl
                have HFL := Lib.hid (show acc.length ≤ 1001 by have := HS1.out; omega)
                have HDP := Lib.hid hDp
                have HSE := Lib.hid hse
                obtain ⟨aT, cT, e⟩ := RowsAt.form (OwnR.rows csSt_len HO3.out)
                subst e
                clear ho hB hfl hR htq hb9 hi hDp hse e1
                have g2 : ¬ (Ss.length : Int) < (Ss.length : Int) := by omega
                clear hlt
                cases dn with
                | true =>
                  obtain rfl : acc = D := by simpa using hDd
                  have HOD := Lib.hid HO3.out
                  have HBD := Lib.hid HB3.out
                  clear hDd
                  go_upto_region 24 with fail
                  clear s0 s1 s2 c1
                  have hTD := HT7.out.kept HBD.out
                  have c0 := hTD.box.cell 0 rfl
                  have c1 := hTD.box.cell 1 rfl
                  have z0 := hTD.box.free 0 rfl
                  have z1 := hTD.box.free 1 rfl
                  have HTD := Lib.hid hTD
                  have CP := Lib.hid (refCopied20_any _ _ Ls Ss _ (HD.out.kept hTD.below).locks (HD.out.kept hTD.below).seats HL1.out HS1.out)
                  have HZD := Lib.hid (Nat.le_trans HZ7.out HBD.out.size)
                  clear hTD
                  go_upto_region 25 with (go_at_call 39; (with_reducible refine CP.out.mono ?_); rintro e w4 ⟨v1, v2, rfl, f1, f2, b4⟩; have F1 := Lib.hid f1; have B4 := Lib.hid b4; obtain ⟨x1, y1, e1⟩ := f1.form csL_len; obtain ⟨x2, y2, e2⟩ := f2.form csSt_len; subst e1 e2; have T4 := HTD.out.kept b4; have d0 := T4.box.cell 0 rfl; have d1 := T4.box.cell 1 rfl; have d2 := T4.box.free 0 rfl; have d3 := T4.box.free 1 rfl; have HT4 := Lib.hid T4; clear f1 f2 b4 T4 c0 c1 z0 z1)
                  have hDW := (HD.out.kept HTD.out.below)
                  have hk4 : WkAt w4 (W.heap.size + 2) G (.slice x1 Ls.length y1) (.slice aT (acc).length cT) Ls (acc) := WkAt.of (F1.out.base HZD.out) (fun _ => OwnR.base13 (OwnR.kept HOD.out B4.out) HZ7.out) (RowsAt.kept (OwnR.rows csSt_len HOD.out) B4.out)
                    (fun x hx => ⟨((hDW.locks.each x hx).below B4.out), fun h0 k hk => ⟨HD.out.el x hx h0 k hk, by have := HD.out.lt k (HD.out.el x hx h0 k hk); omega⟩⟩)
                    (fun x hx => by
                      rcases List.mem_cons.1 ((HDP.out.mem_iff).1 hx) with rfl | hx2
                      · have := OwnR.kept (OwnR.kept HO7.out HBD.out) B4.out
                        exact ⟨OwnI.ints this, .inr this⟩
                      · exact ⟨((hDW.seats.each x hx2).below B4.out), .inl fun h0 k hk => ⟨HD.out.es x hx2 h0 k hk, by have := HD.out.lt k (HD.out.es x hx2 h0 k hk); omega⟩⟩)
                  have hGb : ∀ k, W.heap.size ≤ k → ¬ G k := fun k hk hg => by have := HD.out.lt k hg; omega
                  have HK7 := Lib.hid (((hk4.away ⟨W.heap.size, 0, none⟩ (.slice x1 Ls.length y1) ⟨hGb _ (Nat.le_refl _), by simp⟩).away ⟨W.heap.size, 1, none⟩ (.slice x2 Ss.length y2) ⟨hGb _ (Nat.le_refl _), by simp⟩).away ⟨W.heap.size, 1, none⟩ (.slice aT (acc).length cT) ⟨hGb _ (Nat.le_refl _), by simp⟩)
                  have hT7 := (HT4.out.turn (.slice x1 Ls.length y1) (.slice x2 Ss.length y2)).seats (.slice aT (acc).length cT)
                  have HTS := Lib.hid hT7
                  have hb9n : b9 ≠ W.heap.size := by have := HZ6b.out; omega
                  have hb9s := ((((HB9.out.kept HBD.out).kept B4.out).away ⟨W.heap.size, 0, none⟩ (.slice x1 Ls.length y1) hb9n).away ⟨W.heap.size, 1, none⟩ (.slice x2 Ss.length y2) hb9n).away ⟨W.heap.size, 1, none⟩ (.slice aT (acc).length cT) hb9n
                  have HOS := Lib.hid (show IntsAt (((w4.setCell ⟨W.heap.size, 0, none⟩ (.slice x1 Ls.length y1)).setCell ⟨W.heap.size, 1, none⟩ (.slice x2 Ss.length y2)).setCell ⟨W.heap.size, 1, none⟩ (.slice aT (acc).length cT)) (.slice a6 l.length c6) l from (HK7.out.es ⟨t, 0, a6, c6, l⟩ ((HDP.out.mem_iff).2 List.mem_cons_self)).1)
                  have HZS := Lib.hid (show W.heap.size + 2 ≤ (((w4.setCell ⟨W.heap.size, 0, none⟩ (.slice x1 Ls.length y1)).setCell ⟨W.heap.size, 1, none⟩ (.slice x2 Ss.length y2)).setCell ⟨W.heap.size, 1, none⟩ (.slice aT (acc).length cT)).heap.size by rw [size_setCell, size_setCell, size_setCell]; exact Nat.le_trans HZD.out B4.out.size)
                  have s0 := hb9s.cell 0 rfl
                  have s1 := hb9s.cell 1 rfl
                  have s2 := hb9s.cell 2 rfl
                  have c0 := hT7.box.cell 0 rfl
                  have c1 := hT7.box.cell 1 rfl
                  clear hDW hk4 hGb hT7 hb9n hb9s
                  go_upto_region 26 with fail
                  generalize ((w4.setCell ⟨W.heap.size, 0, none⟩ (.slice x1 Ls.length y1)).setCell ⟨W.heap.size, 1, none⟩ (.slice x2 Ss.length y2)).setCell ⟨W.heap.size, 1, none⟩ (.slice aT (acc).length cT) = wS at *
                  clear d0 d1 d2 d3
                  have HASK := Lib.hid (refAsk20_any HK7.out HZS.out (T := T.put t l) HD.out.le (put_ok HOK.out HIN.out (HERR.out.trans HER.out)) ⟨t, 0, a6, c6, l⟩ (by show (t, (0 : Int), l) = (t, ((upF T.got t 0 t : Nat) : Int), upF T.want t l t); rw [upF_same, upF_same]; rfl) HOS.out)
                  go_upto_region 27 with (go_at_call 40; (with_reducible refine HASK.out.mono ?_); rintro e w12 ⟨rfl, Ls2, g1, g2, g3, g4, _⟩; have G2 := Lib.hid g2; have G3 := Lib.hid g3; have G4 := Lib.hid g4; clear g1 g2 g3 g4 s0 s1 s2 c0 c1)
                  have htf := HTS.out.only G4.out fun k hk => (HK7.out.lo hk.1).2 k hk.2
                  have z0 := htf.ans.free 0 rfl
                  have z1 := htf.ans.free 1 rfl
                  have n0 := htf.ans.cell 0 rfl
                  have n1 := htf.ans.cell 1 rfl
                  have c0 := htf.box.cell 0 rfl
                  have c1 := htf.box.cell 1 rfl
                  obtain ⟨U, hBF⟩ := htf.put (.slice x1 Ls.length y1) (.slice aT (acc).length cT)
                  have r0 := U.cell 0 rfl
                  have r1 := U.cell 1 rfl
                  have hGb : ∀ k, G k → k < W.heap.size := HD.out.lt
                  have hus : ∀ p : Addr, p.block = W.heap.size + 1 → ¬ G p.block ∧ p.block < W.heap.size + 2 := fun p hp => ⟨fun hg => by have := hGb _ hg; omega, by omega⟩
                  have hWF := (G3.out.away ⟨W.heap.size + 1, 0, none⟩ (.slice x1 Ls.length y1) (hus _ rfl)).away ⟨W.heap.size + 1, 1, none⟩ (.slice aT (acc).length cT) (hus _ rfl)
                  have HEN := Lib.hid (show (T.put t l).ask t = T' from by rw [← HT'.out]; unfold Tb.enter; rw [if_pos (HERR.out.trans HER.out)])
                  have HDF := Lib.hid (hWF.doc (T := T') (fun k hk => by have := hGb k hk; rw [size_setCell, size_setCell]; have := HZS.out; have := G4.out.size; omega) (by rw [← HEN.out]; exact G2.out) (by
                    have h9 := HSE.out
                    rw [← HEN.out]
                    unfold Tb.sts at h9 ⊢
                    rw [(ask_ids (T.put t l) t).2.1, (ask_ids (T.put t l) t).2.2.1, (ask_ids (T.put t l) t).2.2.2.1]
                    exact h9))
                  have HBF := Lib.hid hBF
                  clear htf U hBF hGb hus hWF
                  go_wp2
                  refine bodyPost_ret (v := .tuple #[tbv (.slice x1 Ls.length y1) (.slice aT (acc).length cT), .int .i64 0]) ?_ rfl ⟨_, _, congrArg (fun b => Ending.returned (.tuple #[tbv (.slice x1 Ls.length y1) (.slice aT (acc).length cT), .int .i64 b])) HER.out.symm, _, HDF.out, fun k hk => hk.imp (fun h => h) (fun h => by omega), HBF.out⟩
                  simp [results, Tryz.results10, go_sem, r0, r1]

                | false =>
                  have HDD := Lib.hid (show acc ++ [(⟨t, 0, a6, c6, l⟩ : Sr)] = D by simpa using hDd)
                  clear hDd
                  go_upto_region 24 with (at_builtin; refine appS ⟨t, 0, a6, c6, l⟩ HO3.out HB3.out.size (by have := HFL.out; omega) rfl _ _ rfl rfl rfl ?_; intro v6 w6 o6 b6 _ _; rw [HDD.out] at o6; have HOD := Lib.hid o6; have HBD := Lib.hid (HB3.out.trans b6); obtain ⟨aT2, cT2, e⟩ := RowsAt.form (OwnR.rows csSt_len o6); subst e; clear o6 b6)
                  clear s0 s1 s2 c1
                  have hTD := HT7.out.kept HBD.out
                  have c0 := hTD.box.cell 0 rfl
                  have c1 := hTD.box.cell 1 rfl
                  have z0 := hTD.box.free 0 rfl
                  have z1 := hTD.box.free 1 rfl
                  have HTD := Lib.hid hTD
                  have CP := Lib.hid (refCopied20_any _ _ Ls Ss _ (HD.out.kept hTD.below).locks (HD.out.kept hTD.below).seats HL1.out HS1.out)
                  have HZD := Lib.hid (Nat.le_trans HZ7.out HBD.out.size)
                  clear hTD
                  go_upto_region 25 with (go_at_call 39; (with_reducible refine CP.out.mono ?_); rintro e w4 ⟨v1, v2, rfl, f1, f2, b4⟩; have F1 := Lib.hid f1; have B4 := Lib.hid b4; obtain ⟨x1, y1, e1⟩ := f1.form csL_len; obtain ⟨x2, y2, e2⟩ := f2.form csSt_len; subst e1 e2; have T4 := HTD.out.kept b4; have d0 := T4.box.cell 0 rfl; have d1 := T4.box.cell 1 rfl; have d2 := T4.box.free 0 rfl; have d3 := T4.box.free 1 rfl; have HT4 := Lib.hid T4; clear f1 f2 b4 T4 c0 c1 z0 z1)
                  have hDW := (HD.out.kept HTD.out.below)
                  have hk4 : WkAt w4 (W.heap.size + 2) G (.slice x1 Ls.length y1) (.slice aT2 D.length cT2) Ls D := WkAt.of (F1.out.base HZD.out) (fun _ => OwnR.base13 (OwnR.kept HOD.out B4.out) HZ7.out) (RowsAt.kept (OwnR.rows csSt_len HOD.out) B4.out)
                    (fun x hx => ⟨((hDW.locks.each x hx).below B4.out), fun h0 k hk => ⟨HD.out.el x hx h0 k hk, by have := HD.out.lt k (HD.out.el x hx h0 k hk); omega⟩⟩)
                    (fun x hx => by
                      rcases List.mem_cons.1 ((HDP.out.mem_iff).1 hx) with rfl | hx2
                      · have := OwnR.kept (OwnR.kept HO7.out HBD.out) B4.out
                        exact ⟨OwnI.ints this, .inr this⟩
                      · exact ⟨((hDW.seats.each x hx2).below B4.out), .inl fun h0 k hk => ⟨HD.out.es x hx2 h0 k hk, by have := HD.out.lt k (HD.out.es x hx2 h0 k hk); omega⟩⟩)
                  have hGb : ∀ k, W.heap.size ≤ k → ¬ G k := fun k hk hg => by have := HD.out.lt k hg; omega
                  have HK7 := Lib.hid (((hk4.away ⟨W.heap.size, 0, none⟩ (.slice x1 Ls.length y1) ⟨hGb _ (Nat.le_refl _), by simp⟩).away ⟨W.heap.size, 1, none⟩ (.slice x2 Ss.length y2) ⟨hGb _ (Nat.le_refl _), by simp⟩).away ⟨W.heap.size, 1, none⟩ (.slice aT2 D.length cT2) ⟨hGb _ (Nat.le_refl _), by simp⟩)
                  have hT7 := (HT4.out.turn (.slice x1 Ls.length y1) (.slice x2 Ss.length y2)).seats (.slice aT2 D.length cT2)
                  have HTS := Lib.hid hT7
                  have hb9n : b9 ≠ W.heap.size := by have := HZ6b.out; omega
                  have hb9s := ((((HB9.out.kept HBD.out).kept B4.out).away ⟨W.heap.size, 0, none⟩ (.slice x1 Ls.length y1) hb9n).away ⟨W.heap.size, 1, none⟩ (.slice x2 Ss.length y2) hb9n).away ⟨W.heap.size, 1, none⟩ (.slice aT2 D.length cT2) hb9n
                  have HOS := Lib.hid (show IntsAt (((w4.setCell ⟨W.heap.size, 0, none⟩ (.slice x1 Ls.length y1)).setCell ⟨W.heap.size, 1, none⟩ (.slice x2 Ss.length y2)).setCell ⟨W.heap.size, 1, none⟩ (.slice aT2 D.length cT2)) (.slice a6 l.length c6) l from (HK7.out.es ⟨t, 0, a6, c6, l⟩ ((HDP.out.mem_iff).2 List.mem_cons_self)).1)
                  have HZS := Lib.hid (show W.heap.size + 2 ≤ (((w4.setCell ⟨W.heap.size, 0, none⟩ (.slice x1 Ls.length y1)).setCell ⟨W.heap.size, 1, none⟩ (.slice x2 Ss.length y2)).setCell ⟨W.heap.size, 1, none⟩ (.slice aT2 D.length cT2)).heap.size by rw [size_setCell, size_setCell, size_setCell]; exact Nat.le_trans HZD.out B4.out.size)
                  have s0 := hb9s.cell 0 rfl
                  have s1 := hb9s.cell 1 rfl
                  have s2 := hb9s.cell 2 rfl
                  have c0 := hT7.box.cell 0 rfl
                  have c1 := hT7.box.cell 1 rfl
                  clear hDW hk4 hGb hT7 hb9n hb9s
                  go_upto_region 26 with fail
                  generalize ((w4.setCell ⟨W.heap.size, 0, none⟩ (.slice x1 Ls.length y1)).setCell ⟨W.heap.size, 1, none⟩ (.slice x2 Ss.length y2)).setCell ⟨W.heap.size, 1, none⟩ (.slice aT2 D.length cT2) = wS at *
                  clear d0 d1 d2 d3
                  have HASK := Lib.hid (refAsk20_any HK7.out HZS.out (T := T.put t l) HD.out.le (put_ok HOK.out HIN.out (HERR.out.trans HER.out)) ⟨t, 0, a6, c6, l⟩ (by show (t, (0 : Int), l) = (t, ((upF T.got t 0 t : Nat) : Int), upF T.want t l t); rw [upF_same, upF_same]; rfl) HOS.out)
                  go_upto_region 27 with (go_at_call 40; (with_reducible refine HASK.out.mono ?_); rintro e w12 ⟨rfl, Ls2, g1, g2, g3, g4, _⟩; have G2 := Lib.hid g2; have G3 := Lib.hid g3; have G4 := Lib.hid g4; clear g1 g2 g3 g4 s0 s1 s2 c0 c1)
                  have htf := HTS.out.only G4.out fun k hk => (HK7.out.lo hk.1).2 k hk.2
                  have z0 := htf.ans.free 0 rfl
                  have z1 := htf.ans.free 1 rfl
                  have n0 := htf.ans.cell 0 rfl
                  have n1 := htf.ans.cell 1 rfl
                  have c0 := htf.box.cell 0 rfl
                  have c1 := htf.box.cell 1 rfl
                  obtain ⟨U, hBF⟩ := htf.put (.slice x1 Ls.length y1) (.slice aT2 D.length cT2)
                  have r0 := U.cell 0 rfl
                  have r1 := U.cell 1 rfl
                  have hGb : ∀ k, G k → k < W.heap.size := HD.out.lt
                  have hus : ∀ p : Addr, p.block = W.heap.size + 1 → ¬ G p.block ∧ p.block < W.heap.size + 2 := fun p hp => ⟨fun hg => by have := hGb _ hg; omega, by omega⟩
                  have hWF := (G3.out.away ⟨W.heap.size + 1, 0, none⟩ (.slice x1 Ls.length y1) (hus _ rfl)).away ⟨W.heap.size + 1, 1, none⟩ (.slice aT2 D.length cT2) (hus _ rfl)
                  have HEN := Lib.hid (show (T.put t l).ask t = T' from by rw [← HT'.out]; unfold Tb.enter; rw [if_pos (HERR.out.trans HER.out)])
                  have HDF := Lib.hid (hWF.doc (T := T') (fun k hk => by have := hGb k hk; rw [size_setCell, size_setCell]; have := HZS.out; have := G4.out.size; omega) (by rw [← HEN.out]; exact G2.out) (by
                    have h9 := HSE.out
                    rw [← HEN.out]
                    unfold Tb.sts at h9 ⊢
                    rw [(ask_ids (T.put t l) t).2.1, (ask_ids (T.put t l) t).2.2.1, (ask_ids (T.put t l) t).2.2.2.1]
                    exact h9))
                  have HBF := Lib.hid hBF
                  clear htf U hBF hGb hus hWF
                  go_wp2
                  refine bodyPost_ret (v := .tuple #[tbv (.slice x1 Ls.length y1) (.slice aT2 D.length cT2), .int .i64 0]) ?_ rfl ⟨_, _, congrArg (fun b => Ending.returned (.tuple #[tbv (.slice x1 Ls.length y1) (.slice aT2 D.length cT2), .int .i64 b])) HER.out.symm, _, HDF.out, fun k hk => hk.imp (fun h => h) (fun h => by omega), HBF.out⟩
                  simp [results, Tryz.results10, go_sem, r0, r1]
end Go.Proofs.YtbkoogffnchldaaGreat
