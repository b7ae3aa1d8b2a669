/- Texts of this proof, joined: TbG; TbH; TbE; TbI. -/
import Derived.Test.YtieopbeimcmheaaBun13
import Derived.Deep.RegionLaw
/- Stage 20's program: Enter. -/
namespace Go.Proofs.Ytieopbeimcmheaa
open Go.RowKit Go.Maps

/-- a copy of a list, in new memory, from its block's beginning on -/
def lkOwn (B : Nat) (n : Nat) (l : List Int) : Lk := ⟨Option Nat × Nat, ⟨(none, 0)⟩, fun x => .slice (x.1.map fun b => ⟨b, 0, none⟩) n x.2, fun x w => OwnI w B (.slice (x.1.map fun b => ⟨b, 0, none⟩) n x.2) l⟩
theorem OwnI.hdr {w : World} {B : Nat} {v : Value} {l : List Int} (h : OwnI w B v l) : ∃ (g : Option Nat) (c : Nat), v = .slice (g.map fun b => ⟨b, 0, none⟩) l.length c := by
  rcases h.2 with ⟨rfl, h0⟩ | ⟨g, cap, cur, rfl, _⟩
  · exact ⟨none, 0, by rw [h0]; rfl⟩
  · exact ⟨some g, cap, rfl⟩
theorem lkOwn_at {P : Program} {o : Oper} {a : Act} {W : World} {G : World → Prop} {B n : Nat} {l : List Int} {f : FuncId} {args : Array Value} (hn : l.length = n) (hB : B ≤ W.heap.size) (he : ∀ k : In W, (execOp a.eval o).run P k.w = .ok (.enter f args) k.w)
    (hc : ∀ k : In W, Calls P f args k.w fun e w' => ∃ v, e = .returned v ∧ OwnI w' k.w.heap.size v l ∧ Below k.w.heap.size k.w w') : (lkOwn B n l).at P o a W G :=
  ⟨fun _ _ _ h hb => OwnR.kept h hb, fun k _ => by
    subst hn
    rw [he k]
    refine ⟨rfl, (hc k).mono ?_⟩
    rintro e w' ⟨v, rfl, h1, h2⟩
    obtain ⟨g, c, rfl⟩ := OwnI.hdr h1
    exact ⟨(g, c), rfl, OwnR.base13 h1 (Nat.le_trans hB k.h.size), h2.mono k.h.size⟩⟩

/-- a claim of one's own copy is laid -/
theorem TbR.entered {b ml mc : Nat} {pt : Int → Nat} {Gf : Int → Nat → Prop} {cl : Int → Cl} {F : Nat → Prop} {w w2 : World} {T : Tb} (h : TbR b ml mc pt Gf cl F w T) (hb : Below w.heap.size w w2) {t : Int} (h64 : I64 t) (hm : t ∉ T.toks) (hf : T.toks.length ≤ 64) {l : List Int} {g : Option Nat} {c : Nat} (ho : OwnI w2 w.heap.size (.slice (g.map fun b => ⟨b, 0, none⟩) l.length c) l) :
    ∃ w3, (Instr.mapUpdate 67 (.map (some mc)) (.int .i64 t) (.agg #[.slice (g.map fun b => ⟨b, 0, none⟩) l.length c, .int .i64 0])).run Try.prog w2 = .ok () w3 ∧ ∃ F', TbR b ml mc pt Gf (upF cl t ⟨g, l.length, c, 0⟩) F' w3 (T.put t l) ∧ Mv F F' w w3 := by
  have k := h.kept hb
  obtain ⟨w3, q1, q2, q3⟩ := MapC.put k.cm (by omega) h64 ⟨g, l.length, c, 0⟩
  rw [(clG_no cl hm).2, if_neg (by simp)] at q2
  refine ⟨w3, q1, _, k.claim (t := t) (c := ⟨g, l.length, c, 0⟩) (T' := T.put t l) (X := fun k => w.heap.size ≤ k ∧ k < w2.heap.size) rfl rfl rfl (fun x => insI_mem) (fun x hx => ⟨upF_ne _ _ hx, upF_ne _ _ hx⟩) ⟨?_, ?_, ?_⟩ (fun h0 j hj => ?_) (fun j hj => hj.2) q3 ?_, ⟨(Only.of_below hb).trans (Only.grown q3 fun j hj => by rw [← Option.some.inj hj]; exact h.fc), fun j hj => ?_⟩⟩
  · show (0 : Int) = ((upF T.got t 0 t : Nat) : Int)
    rw [upF_same]
    rfl
  · show l.length = (upF T.want t l t).length
    rw [upF_same]
  · show IntsAt w2 _ (upF T.want t l t)
    rw [upF_same]
    exact OwnI.ints ho
  · obtain ⟨a1, a2⟩ := ho.lt j hj
    have l1 := h.lt b h.fb
    have l2 := h.lt ml h.fl
    have l3 := h.lt mc h.fc
    exact ⟨.inr ⟨a1, a2⟩, by omega, by omega, by omega, fun id hid hg => by have := h.lt j (h.fg id hid j hg); omega⟩
  · have e : (T.put t l).toks.length = T.toks.length + 1 := insI_len
    rw [e]
    exact q2
  · rcases hj with hj | hj
    · exact .inl hj
    · exact .inr hj.1

set_option maxHeartbeats 16000000 in
set_option maxRecDepth 100000 in
theorem tEnter_any {F : Nat → Prop} {w : World} {p : Value} {T : Tb} (h : TbAt F w p T) (t : Int) (ht : In18 t) (va : Value) (l : List Int) (hi : IntsAt w va l) (hl : l.length ≤ 1000) :
    Calls Try.prog 10 #[p, .int .i64 t, va] w fun e w' => e = .returned (.int .i64 (T.enterE t l)) ∧ ∃ F', TbAt F' w' p (T.enter t l) ∧ Mv F F' w w' := by
  obtain ⟨hok, b, ml, mc, pt, Gf, cl, rfl, hr⟩ := h
  obtain ⟨er, her⟩ : ∃ er, T.enterE t l = er := ⟨_, rfl⟩
  obtain ⟨T', hT'⟩ : ∃ T', T.enter t l = T' := ⟨_, rfl⟩
  rw [her, hT']
  have HERR := Lib.hid her
  have HT' := Lib.hid hT'
  have HFIN := Lib.hid (show ∀ c w', er = c → c ≠ 0 → Below w.heap.size w w' → ∃ F', TbAt F' w' (ptr18 b) T' ∧ Mv F F' w w' from fun c w' h1 h2 hb => by
    have e : T = T' := by
      rw [← hT']
      unfold Tb.enter
      rw [if_neg (by rw [her, h1]; exact h2)]
    rw [← e]
    exact ⟨F, ⟨hok, b, ml, mc, pt, Gf, cl, rfl, hr.kept hb⟩, Mv.of_below hb⟩)
  have HOK := Lib.hid hok
  have H := Lib.hid hr
  have HI := Lib.hid hi
  have HL := Lib.hid hl
  have HIN := Lib.hid ht
  have GR := Lib.hid (iRight_any va l w hi (by omega))
  obtain ⟨aw, cw, rfl⟩ := hi.form
  clear her hT' hi hl
  by_cases h1 : t < 1
  · have HER := Lib.hid (show er = 1 from HERR.out.symm.trans (by unfold Tb.enterE; rw [if_pos (.inl h1)]))
    clear hr hok
    go_enter Try.func10, Try.ntmps10
    go_wp2
    go_ret
    exact ⟨ret_i HER.out.symm, HFIN.out 1 _ HER.out (by decide) (Below.refl _ _)⟩
  have HN1 := Lib.hid h1
  cases hq : rightB l with
  | false =>
    have HER := Lib.hid (show er = 1 from HERR.out.symm.trans (by unfold Tb.enterE; rw [if_pos (.inr hq)]))
    rw [hq] at GR
    clear hr hok hq
    go_enter Try.func10, Try.ntmps10
    go_wp2_with (go_at_call 27; (with_reducible refine GR.out.mono ?_); rintro e w3 ⟨rfl, b3⟩; have HB3 := Lib.hid b3; clear b3)
    go_ret
    exact ⟨ret_i HER.out.symm, HFIN.out 1 _ HER.out (by decide) HB3.out⟩
  | true =>
    rw [hq] at GR
    have HQ := Lib.hid hq
    have HIDS := Lib.hid fun (w' : World) (hb : Below w.heap.size w w') => tIds_any (hr.kept hb) hok
    have HLI := Lib.hid (may_len hok.may)
    cases hw : withinB l T.ids with
    | false =>
      have HER := Lib.hid (show er = 7 from HERR.out.symm.trans (by unfold Tb.enterE; rw [if_neg (fun h => h.elim h1 fun h => by rw [hq] at h; cases h), if_pos hw]))
      have HWN := Lib.hid fun (v : Value) (w' : World) (ha : IntsAt w' (.slice aw l.length cw) l) (hb : IntsAt w' v T.ids) => iWithin_any (.slice aw l.length cw) v l T.ids w' ha hb (by have := HL.out; omega) (by have := HLI.out; omega)
      rw [hw] at HWN
      clear hr hok hq hw
      go_enter Try.func10, Try.ntmps10
      go_wp2_with (first
        | (go_at_call 27; (with_reducible refine GR.out.mono ?_); rintro e w3 ⟨rfl, b3⟩; have HB3 := Lib.hid b3; clear b3)
        | (go_at_call 29; (with_reducible refine (HIDS.out _ HB3.out).mono ?_); rintro e w4 ⟨v4, rfl, h4, _, b4⟩; have HB4 := Lib.hid (HB3.out.trans (b4.mono HB3.out.size)); have WN := Lib.hid (HWN.out v4 w4 (HI.out.below HB4.out) h4); clear h4 b4)
        | (go_at_call 28; (with_reducible refine WN.out.mono ?_); rintro e w5 ⟨rfl, b5⟩; have HB5 := Lib.hid (HB4.out.trans (b5.mono HB4.out.size)); clear b5))
      go_ret
      exact ⟨ret_i HER.out.symm, HFIN.out 7 _ HER.out (by decide) HB5.out⟩
    | true =>
      have HWN := Lib.hid fun (v : Value) (w' : World) (ha : IntsAt w' (.slice aw l.length cw) l) (hb : IntsAt w' v T.ids) => iWithin_any (.slice aw l.length cw) v l T.ids w' ha hb (by have := HL.out; omega) (by have := HLI.out; omega)
      rw [hw] at HWN
      have HW := Lib.hid hw
      clear hq hw
      go_enter Try.func10, Try.ntmps10
      go_upto_region 7 with (first
        | (go_at_call 27; (with_reducible refine GR.out.mono ?_); rintro e w3 ⟨rfl, b3⟩; have HB3 := Lib.hid b3; clear b3)
        | (go_at_call 29; (with_reducible refine (HIDS.out _ HB3.out).mono ?_); rintro e w4 ⟨v4, rfl, h4, _, b4⟩; have HB4 := Lib.hid (HB3.out.trans (b4.mono HB3.out.size)); have WN := Lib.hid (HWN.out v4 w4 (HI.out.below HB4.out) h4); clear h4 b4)
        | (go_at_call 28; (with_reducible refine WN.out.mono ?_); rintro e w5 ⟨rfl, b5⟩; have HB5 := Lib.hid (HB4.out.trans (b5.mono HB4.out.size)); clear b5))
      have h5 := H.out.kept HB5.out
      have c1 := h5.blk.cell 1 rfl
      have hlk := MapC.look h5.cm HIN.out
      by_cases hm : t ∈ T.toks
      · have HER := Lib.hid (show er = 6 from HERR.out.symm.trans (by unfold Tb.enterE; rw [if_neg (fun h => h.elim (fun h => by have := HN1.out; omega) fun h => by rw [HQ.out] at h; cases h), if_neg (by rw [HW.out]; simp), if_pos hm]))
        rw [(clG_at cl hm).1, (clG_at cl hm).2] at hlk
        obtain ⟨x, hx⟩ : ∃ x, cl t = x := ⟨_, rfl⟩
        rw [hx] at hlk
        obtain ⟨xg, xn, xc, xd⟩ := x
        replace hlk : (Instr.lookup 67 (.map (some mc)) (.int .i64 t) true).run Try.prog w5 = .ok (.tuple #[.agg #[.slice (xg.map fun b => ⟨b, 0, none⟩) xn xc, .int .i64 xd], .bool true]) w5 := hlk
        generalize xg.map (fun b => (⟨b, 0, none⟩ : Addr)) = xa at *
        clear hr hok hm hx h5
        go_wp2
        go_ret
        exact ⟨ret_i HER.out.symm, HFIN.out 6 _ HER.out (by decide) (HB5.out.alloc HB5.out.size _)⟩
      · have HM := Lib.hid hm
        rw [(clG_no cl hm).1, (clG_no cl hm).2] at hlk
        replace hlk : (Instr.lookup 67 (.map (some mc)) (.int .i64 t) true).run Try.prog w5 = .ok (.tuple #[.agg #[.slice none 0 0, .int .i64 0], .bool false]) w5 := hlk
        go_upto_region 10 with fail
        have HB6 := Lib.hid (HB5.out.alloc HB5.out.size (.cells #[.slice none 0 0, .int .i64 0] 73))
        generalize w5.alloc (.cells #[.slice none 0 0, .int .i64 0] 73) = w6 at *
        have h6 := H.out.kept HB6.out
        have c1 := h6.blk.cell 1 rfl
        have HCM := Lib.hid h6.cm
        clear hlk h5 hm
        by_cases h64 : 64 ≤ T.toks.length
        · have HER := Lib.hid (show er = 9 from HERR.out.symm.trans (by unfold Tb.enterE; rw [if_neg (fun h => h.elim (fun h => by have := HN1.out; omega) fun h => by rw [HQ.out] at h; cases h), if_neg (by rw [HW.out]; simp), if_neg HM.out, if_pos h64]))
          have k64 : (64 : Int) ≤ (T.toks.length : Int) := by omega
          clear hr hok h6 h64
          go_wp2_with (at_len; refine wpList_lenG (E := EC) rfl _ _ rfl Try.underlying67 rfl HCM.out ?_)
          go_ret
          exact ⟨ret_i HER.out.symm, HFIN.out 9 _ HER.out (by decide) HB6.out⟩
        · have HER := Lib.hid (show er = 0 from HERR.out.symm.trans (by unfold Tb.enterE; rw [if_neg (fun h => h.elim (fun h => by have := HN1.out; omega) fun h => by rw [HQ.out] at h; cases h), if_neg (by rw [HW.out]; simp), if_neg HM.out, if_neg h64]))
          have k64 : ¬ (64 : Int) ≤ (T.toks.length : Int) := by omega
          clear hr hok h6 h64
          go_upto_region 12 with (at_len; refine wpList_lenG (E := EC) rfl _ _ rfl Try.underlying67 rfl HCM.out ?_)
          have HEN := Lib.hid (show (T.put t l).ask t = T' from by rw [← HT'.out]; unfold Tb.enter; rw [if_pos (HERR.out.trans HER.out)])
          have HPO := Lib.hid (put_ok HOK.out HIN.out (HERR.out.trans HER.out))
          have CL := Lib.hid fun (w' : World) (hb : Below w6.heap.size w6 w') => cloneI_any (.slice aw l.length cw) l w' ((HI.out.below HB6.out).below hb) (by have := HL.out; omega)
          obtain ⟨n, hn⟩ : ∃ n, l.length = n := ⟨_, rfl⟩
          have HLN := Lib.hid hn
          have HENT := Lib.hid fun (w7 : World) (hb : Below w6.heap.size w6 w7) (g : Option Nat) (c : Nat) (ho : OwnI w7 w6.heap.size (.slice (g.map fun b => ⟨b, 0, none⟩) l.length c) l) => (H.out.kept HB6.out).entered hb HIN.out HM.out HOK.out.few ho
          rw [hn] at HENT CL
          clear hn
          simp only [HLN.out]
          refine wp_region_chain 8 [.calm 6, .own (lkOwn w6.heap.size n l), .calm 1] [6] rfl (by kernel_rfl) (by simp) (by kernel_rfl) (by kernel_rfl) ?_
          simp only [List.take_succ_cons, List.take_zero, List.drop_succ_cons, List.drop_zero]
          refine ⟨by simp, fun M => ?_⟩
          simp only [List.take_succ_cons, List.take_zero, List.drop_succ_cons, List.drop_zero]
          have e1 := fun n : In M.w => n.cell (M.cell c1)
          repeat (go_big_quiet_step (fail))
          refine wpQuiet_nil ?_
          clear e1 M
          refine ⟨rfl, lkOwn_at (f := 30) (args := #[.slice aw n cw]) HLN.out (Nat.le_refl _) (fun k => by simp [go_sem]) (fun k => CL.out k.w k.h), fun y A hA => ?_⟩
          simp [Act.put, lkOwn] at hA
          subst hA
          refine ⟨by simp, fun M => ?_⟩
          simp only [List.take_succ_cons, List.take_zero, List.drop_succ_cons, List.drop_zero]
          repeat (go_big_quiet_step (fail))
          refine wpQuiet_nil ?_
          clear M
          refine ⟨rfl, fun w7 hb7 h7 => ?_⟩
          obtain ⟨y1, y2⟩ := y
          obtain ⟨w8, hrun, F8, s1, s2⟩ := HENT.out w7 hb7 y1 y2 h7
          have S1 := Lib.hid s1
          have S2 := Lib.hid s2
          generalize y1.map (fun b => (⟨b, 0, none⟩ : Addr)) = xa at *
          clear hb7 h7 s1 s2 c1
          have HAN := Lib.hid (tAskNext_any S1.out HPO.out)
          go_upto_region 13 with fail
          clear hrun
          go_wp2_with (go_at_call 31; (with_reducible refine HAN.out.mono ?_); rintro e w9 ⟨rfl, Gf9, F9, r1, r2⟩; have HR1 := Lib.hid r1; have HR2 := Lib.hid r2; clear r1 r2)
          go_ret
          have hr1 := HR1.out
          rw [HEN.out] at hr1
          have hok9 := HPO.out.ask
          rw [HEN.out] at hok9
          exact ⟨ret_i HER.out.symm, F9, ⟨hok9, b, ml, mc, pt, Gf9, _, rfl, hr1⟩, ((Mv.of_below HB6.out).trans S2.out).trans HR2.out⟩
end Go.Proofs.Ytieopbeimcmheaa
/- Stage 20's program: Leave. -/
namespace Go.Proofs.Ytieopbeimcmheaa
open Go.RowKit Go.Maps

/-- the first k of the aisles that it wants have been left -/
def Tb.lvw (T : Tb) (t : Int) (k : Nat) : Tb := { T with hd := fun id => if id ∈ (T.want t).take k then (leaveL (T.hd id) (T.wt id) t).1 else T.hd id, wt := fun id => if id ∈ (T.want t).take k then (leaveL (T.hd id) (T.wt id) t).2.1 else T.wt id }
theorem lvw_next (T : Tb) (t : Int) (hn : (T.want t).Nodup) (k : Nat) (hk : k < (T.want t).length) : T.lvw t (k + 1) = { T.lvw t k with hd := upF (T.lvw t k).hd (T.want t)[k] (leaveL ((T.lvw t k).hd (T.want t)[k]) ((T.lvw t k).wt (T.want t)[k]) t).1, wt := upF (T.lvw t k).wt (T.want t)[k] (leaveL ((T.lvw t k).hd (T.want t)[k]) ((T.lvw t k).wt (T.want t)[k]) t).2.1 } := by
  have hno := not_take hn k hk
  have e1 : (T.lvw t k).hd (T.want t)[k] = T.hd (T.want t)[k] := if_neg hno
  have e2 : (T.lvw t k).wt (T.want t)[k] = T.wt (T.want t)[k] := if_neg hno
  rw [e1, e2]
  have hm : ∀ a, a ∈ (T.want t).take (k + 1) ↔ a ∈ (T.want t).take k ∨ a = (T.want t)[k] := fun a => by rw [List.take_succ_eq_append_getElem hk, List.mem_append, List.mem_singleton]
  unfold Tb.lvw
  congr 1
  · funext a
    show (if a ∈ (T.want t).take (k + 1) then _ else _) = (if a = (T.want t)[k] then _ else (if a ∈ (T.want t).take k then _ else _))
    by_cases e : a = (T.want t)[k]
    · rw [if_pos ((hm a).2 (.inr e)), if_pos e, e]
    · rw [if_neg e]
      by_cases h : a ∈ (T.want t).take k
      · rw [if_pos ((hm a).2 (.inl h)), if_pos h]
      · rw [if_neg (fun h2 => ((hm a).1 h2).elim h e), if_neg h]
  · funext a
    show (if a ∈ (T.want t).take (k + 1) then _ else _) = (if a = (T.want t)[k] then _ else (if a ∈ (T.want t).take k then _ else _))
    by_cases e : a = (T.want t)[k]
    · rw [if_pos ((hm a).2 (.inr e)), if_pos e, e]
    · rw [if_neg e]
      by_cases h : a ∈ (T.want t).take k
      · rw [if_pos ((hm a).2 (.inl h)), if_pos h]
      · rw [if_neg (fun h2 => ((hm a).1 h2).elim h e), if_neg h]
theorem lvw_zero (T : Tb) (t : Int) : T.lvw t 0 = T := by simp [Tb.lvw]
theorem TbR.congr {b ml mc : Nat} {pt : Int → Nat} {Gf : Int → Nat → Prop} {cl : Int → Cl} {F : Nat → Prop} {w : World} {T : Tb} (h : TbR b ml mc pt Gf cl F w T) (hd : Int → Int) (wt : Int → List Int) (he : ∀ id ∈ T.ids, hd id = T.hd id ∧ wt id = T.wt id) : TbR b ml mc pt Gf cl F w { T with hd := hd, wt := wt } :=
  have e : ∀ id ∈ T.ids, LkAt (Gf id) w (ptr18 (pt id)) ⟨id, hd id, wt id⟩ := fun id hi => by
    rw [(he id hi).1, (he id hi).2]
    exact h.lk id hi
  { h with lk := e }
theorem lvw_end {T : Tb} (h : T.Ok) {t : Int} (ht : t ∈ T.toks) {id : Int} (hi : id ∈ T.ids) : (leaveL (T.hd id) (T.wt id) t).1 = (T.lvw t (T.want t).length).hd id ∧ (leaveL (T.hd id) (T.wt id) t).2.1 = (T.lvw t (T.want t).length).wt id := by
  unfold Tb.lvw
  simp only [List.take_length]
  by_cases hw : id ∈ T.want t
  · rw [if_pos hw, if_pos hw]
    exact ⟨rfl, rfl⟩
  · rw [if_neg hw, if_neg hw]
    exact leave_far h ht hi hw

set_option maxHeartbeats 16000000 in
set_option maxRecDepth 100000 in
theorem tLeave_any {F : Nat → Prop} {w : World} {p : Value} {T : Tb} (h : TbAt F w p T) (t : Int) (ht : In18 t) :
    Calls Try.prog 12 #[p, .int .i64 t] w fun e w' => e = .returned (.bool (decide (t ∈ T.toks))) ∧ ∃ F', TbAt F' w' p (T.leave t) ∧ Mv F F' w w' := by
  obtain ⟨hok, b, ml, mc, pt, Gf, cl, rfl, hr⟩ := h
  have hfi := tFind_any hr t ht
  obtain ⟨T', hT'⟩ : ∃ T', T.leave t = T' := ⟨_, rfl⟩
  rw [hT']
  have HT' := Lib.hid hT'
  have HOK := Lib.hid hok
  have H := Lib.hid hr
  have HIN := Lib.hid ht
  by_cases hm : t ∈ T.toks
  · rw [decide_eq_true hm]
    rw [(clG_at cl hm).1, (clG_at cl hm).2] at hfi
    obtain ⟨h1, h2, h3⟩ := hr.ch t hm
    obtain ⟨x, hx⟩ : ∃ x, cl t = x := ⟨_, rfl⟩
    rw [hx] at h1 h2 h3 hfi
    have HX := Lib.hid hx
    obtain ⟨xg, xn, xc, xd⟩ := x
    simp only at h1 h2
    subst h1 h2
    have HFI := Lib.hid (show Calls Try.prog 36 #[ptr18 b, .int .i64 t] w fun e w' => e = .returned (.tuple #[.agg #[.slice (xg.map fun b => ⟨b, 0, none⟩) (T.want t).length xc, .int .i64 (T.got t)], .bool true]) ∧ Below w.heap.size w w' from hfi)
    have HM := Lib.hid hm
    have HND := Lib.hid (ris_nodup (hok.wr t hm))
    have HWL := Lib.hid (hok.wantlen hm)
    have HIDS := Lib.hid (show ∀ id ∈ T.want t, id ∈ T.ids ∧ I64 id from fun id hi => ⟨hok.win t hm id hi, hok.ids64 (hok.win t hm id hi)⟩)
    obtain ⟨xa, hxa⟩ : ∃ xa, xg.map (fun b => (⟨b, 0, none⟩ : Addr)) = xa := ⟨_, rfl⟩
    have HXA := Lib.hid hxa
    rw [hxa] at HFI
    clear hok hr ht hm hT' hfi h3 hx hxa
    go_enter Try.func12, Try.ntmps12
    go_upto_region 4 with (go_at_call 36; (with_reducible refine HFI.out.mono ?_); rintro e w1 ⟨rfl, b1⟩; have HB1 := Lib.hid b1; clear b1)
    have hX := Blk.new w1 [.slice xa (T.want t).length xc, .int .i64 (T.got t)] 73
    have hal := (Below.refl w1.heap.size w1).alloc (Nat.le_refl _) (.cells #[.slice xa (T.want t).length xc, .int .i64 (T.got t)] 73)
    have HB2 := Lib.hid (HB1.out.trans (hal.mono HB1.out.size))
    have x0 := hX.cell 0 rfl
    generalize w1.alloc (.cells #[.slice xa (T.want t).length xc, .int .i64 (T.got t)] 73) = w2 at *
    clear hX hal
    go_wp2
    clear x0
    go_loopw [20] (fun iv wr => ∃ (k : Nat) (Gf2 : Int → Nat → Prop) (F2 : Nat → Prop), k ≤ (T.want t).length ∧ iv = .int .i64 k ∧ TbR b ml mc pt Gf2 cl F2 wr (T.lvw t k) ∧ Mv F F2 w wr) (fun iv _ => (T.want t).length - (intOf iv).toNat)
    case atStart => exact ⟨0, Gf, F, by omega, rfl, by rw [lvw_zero]; exact H.out.kept HB2.out, Mv.of_below HB2.out⟩
    case round =>
      obtain ⟨k, Gf2, F2, hk, rfl, htb, hmv⟩ := hrel
      have HTB := Lib.hid htb
      have HMV := Lib.hid hmv
      have hli : IntsAt wr (.slice xa (T.want t).length xc) (T.want t) := by
        have := (htb.ch t HM.out).2.2
        rw [HX.out] at this
        dsimp only [Cl.v] at this
        rw [HXA.out] at this
        exact this
      by_cases hlt : k < (T.want t).length
      · obtain ⟨gb, o, cc, e, _, _, p0⟩ := hli.spot k hlt
        cases e
        have HLT := Lib.hid hlt
        have hnx := lvw_next T t HND.out k hlt
        obtain ⟨hid, h64⟩ := HIDS.out _ (List.getElem_mem hlt)
        generalize (T.want t)[k] = id at *
        have hlv := lkLeave_any t (htb.lk id hid) HIN.out
        simp only at hlv
        have HLV := Lib.hid hlv
        have HID := Lib.hid hid
        have HNX := Lib.hid hnx
        have c0 := htb.blk.cell 0 rfl
        have hlk := MapL.look1 htb.lm h64
        rw [lkG_at (T := T.lvw t k) pt hid] at hlk
        have k2 : (0 : Int) ≤ (k : Int) := by omega
        have k3 : (k : Int) < ((T.want t).length : Int) := by omega
        have k4 : (k : Int) ≤ 32 := by have := HWL.out; omega
        clear htb hmv hli hlt hnx hid h64 hlv hk
        go_wp2_with (go_at_call 37; (with_reducible refine HLV.out.mono ?_); rintro e w3 ⟨rfl, G', g1, g2⟩; have G1 := Lib.hid g1; have G2 := Lib.hid g2; clear g1 g2)
        obtain ⟨r1, r2⟩ := HTB.out.lock HID.out G1.out G2.out
        have R1 := Lib.hid r1
        have R2 := Lib.hid r2
        clear r1 r2 hlk c0
        go_roundw
        case rel => exact ⟨k + 1, _, _, by have := HLT.out; omega, by go_num, by rw [HNX.out]; exact R1.out, HMV.out.trans R2.out⟩
        case measure => have := HLT.out; simp [intOf] <;> omega
      · have hke : k = (T.want t).length := by omega
        subst hke
        have g2 : ¬ ((T.want t).length : Int) < ((T.want t).length : Int) := by omega
        have c0 := htb.blk.cell 1 rfl
        have HCM := Lib.hid htb.cm
        clear htb hmv hli hlt hk
        go_wp2_with (at_delete; refine wpList_delG (E := EC) rfl _ _ _ rfl Try.underlying3 Try.underlying67 rfl HCM.out t HIN.out rfl ?_; intro w4 hm4 hg4; have HM4 := Lib.hid hm4; have HG4 := Lib.hid hg4; clear hm4 hg4)
        go_ret
        have hm4 : MapC w4 mc (if (clG (T.lvw t (T.want t).length) cl t).isSome = true then T.toks.length - 1 else T.toks.length) (updG (clG (T.lvw t (T.want t).length) cl) t none) := HM4.out
        have hsome : (clG (T.lvw t (T.want t).length) cl t).isSome = true := (clG_at (T := T.lvw t (T.want t).length) cl HM.out).2
        rw [hsome, if_pos rfl] at hm4
        have hTe : T' = { T.lvw t (T.want t).length with toks := T.toks.filter (fun x => decide (x ≠ t)), hd := fun id => (leaveL (T.hd id) (T.wt id) t).1, wt := fun id => (leaveL (T.hd id) (T.wt id) t).2.1 } := by
          rw [← HT'.out]
          unfold Tb.leave
          rw [if_pos HM.out]
          rfl
        have hlen : (T.toks.filter (fun x => decide (x ≠ t))).length = T.toks.length - 1 := by
          have h1 := filter_in_len T.toks [t] (ris_nodup HOK.out.ris) (by simp) (fun x hx => by rw [List.mem_singleton.1 hx]; exact HM.out)
          have h2 := filter_both (fun x => inL [t] x) T.toks
          have h3 : (T.toks.filter fun x => !inL [t] x) = T.toks.filter (fun x => decide (x ≠ t)) := List.filter_congr fun x _ => by simp [inL]
          rw [h1, h3] at h2
          simp at h2 ⊢
          omega
        have hdr := HTB.out.drop (t := t) (T' := { T.lvw t (T.want t).length with toks := T.toks.filter (fun x => decide (x ≠ t)) }) rfl rfl rfl rfl rfl rfl HG4.out (by show MapC w4 mc (T.toks.filter (fun x => decide (x ≠ t))).length _; rw [hlen]; exact hm4)
        have hok9 := leave_ok HOK.out t
        rw [HT'.out] at hok9
        refine ⟨rfl, F2, ⟨hok9, b, ml, mc, pt, Gf2, cl, rfl, ?_⟩, HMV.out.trans ⟨Only.grown HG4.out fun j hj => by rw [← Option.some.inj hj]; exact HTB.out.fc, fun j hj => .inl hj⟩⟩
        rw [hTe]
        exact hdr.congr _ _ fun id hi => lvw_end HOK.out HM.out hi
  · rw [decide_eq_false hm]
    rw [(clG_no cl hm).1, (clG_no cl hm).2] at hfi
    have HFI := Lib.hid (show Calls Try.prog 36 #[ptr18 b, .int .i64 t] w fun e w' => e = .returned (.tuple #[.agg #[.slice none 0 0, .int .i64 0], .bool false]) ∧ Below w.heap.size w w' from hfi)
    have HTT := Lib.hid (show T = T' by rw [← hT']; unfold Tb.leave; rw [if_neg hm])
    clear hok hr ht hm hT' hfi
    go_enter Try.func12, Try.ntmps12
    go_wp2_with (go_at_call 36; (with_reducible refine HFI.out.mono ?_); rintro e w1 ⟨rfl, b1⟩; have HB1 := Lib.hid b1; clear b1)
    go_ret
    have hb := HB1.out.alloc HB1.out.size (.cells #[.slice none 0 0, .int .i64 0] 73)
    exact ⟨rfl, F, by rw [← HTT.out]; exact ⟨HOK.out, b, ml, mc, pt, Gf, cl, rfl, H.out.kept hb⟩, Mv.of_below hb⟩
end Go.Proofs.Ytieopbeimcmheaa
/- Stage 20's program: View. -/
namespace Go.Proofs.Ytieopbeimcmheaa
open Go.RowKit Go.Maps

/-- the first i locks have been shown: the box p, the row in it -/
structure VwJ (b ml mc : Nat) (pt : Int → Nat) (Gf : Int → Nat → Prop) (cl : Int → Cl) (F : Nat → Prop) (T : Tb) (w0 : World) (p : Nat) (i : Nat) (FJ : Nat → Prop) (w : World) (vv : Value) (Vs : List Lr) : Prop where
  tb : TbR b ml mc pt Gf cl F w T
  box : Blk w p [vv]
  own : OwnR w (p + 1) 63 3 csL vv Vs
  eq : Vs.map lkp = T.lks.take i
  ea : ∀ x ∈ Vs, IntsAt w x.v x.wait ∧ (0 < x.wait.length → ∀ k, x.v.ownBlock = some k → FJ k ∧ p < k ∧ vv.ownBlock ≠ some k)
  fb : ∀ k, k < p → FJ k
  old : ∀ k, k < p → w.heap[k]? = w0.heap[k]?
  fp : FJ p
  fo : ∀ k, vv.ownBlock = some k → FJ k
  bF : ∀ k, F k → k < p
  lt : ∀ k, FJ k → k < w.heap.size
section
variable {b ml mc : Nat} {pt : Int → Nat} {Gf : Int → Nat → Prop} {cl : Int → Cl} {F : Nat → Prop} {w0 w w' : World} {T : Tb} {p i : Nat} {FJ : Nat → Prop}
theorem VwJ.keep : KeepJ (fun i FJ w => ∃ vv Vs, VwJ b ml mc pt Gf cl F T w0 p i FJ w vv Vs) where
  lt := fun ⟨_, _, h⟩ => h.lt
  out := fun ⟨vv, Vs, h⟩ hz he => ⟨vv, Vs, { tb := h.tb.same hz fun k hk => he k (h.fb k (h.bF k hk)), box := h.box.same (he p h.fp), own := OwnR.sameB h.own fun k hk => he k (h.fo k hk), eq := h.eq, ea := fun x hx => ⟨(h.ea x hx).1.same hz fun h0 k hk => he k ((h.ea x hx).2 h0 k hk).1, (h.ea x hx).2⟩, fb := h.fb, old := fun k hk => (he k (h.fb k hk)).trans (h.old k hk), fp := h.fp, fo := h.fo, bF := h.bF, lt := fun k hk => Nat.lt_of_lt_of_le (h.lt k hk) hz }⟩
theorem VwJ.more {vv : Value} {Vs : List Lr} (h : VwJ b ml mc pt Gf cl F T w0 p i FJ w vv Vs) {w5 w6 w9 : World} (hb5 : Below w.heap.size w w5) (hb6 : Below w5.heap.size w5 w6) (hg : w6.grownBy w9 vv.ownBlock) (x : Lr) (hx : IntsAt w5 x.v x.wait) (nx : ∀ k, x.v.ownBlock = some k → w.heap.size ≤ k) {v' : Value} (ho : OwnR w9 (p + 1) 63 3 csL v' (Vs ++ [x])) (hv : ∀ k, v'.ownBlock = some k → vv.ownBlock = some k ∨ k = w5.heap.size + 1) (he : T.lks.take (i + 1) = T.lks.take i ++ [lkp x]) :
    ∃ FJ', (∃ vv' Vs', VwJ b ml mc pt Gf cl F T w0 p (i + 1) FJ' (w9.setCell ⟨p, 0, none⟩ v') vv' Vs') ∧ Mv FJ FJ' w (w9.setCell ⟨p, 0, none⟩ v') := by
  have hpz := h.lt p h.fp
  have hvl : ∀ k, vv.ownBlock = some k → p < k ∧ k < w.heap.size := fun k hk => ⟨(h.own.lt k hk).1, (h.own.lt k hk).2⟩
  have hz5 := hb5.size
  have hz6 := hb6.size
  have hz9 := hg.size
  have hzF : (w9.setCell ⟨p, 0, none⟩ v').heap.size = w9.heap.size := size_setCell _ _ _
  have h6 : Below w.heap.size w w6 := hb5.trans (hb6.mono hz5)
  have hun : ∀ k, k < w.heap.size → k ≠ p → vv.ownBlock ≠ some k → (w9.setCell ⟨p, 0, none⟩ v').heap[k]? = w.heap[k]? := fun k h1 h2 h3 => by
    rw [Below.heap_setCell _ _ _ _ h2, hg.block k (by omega) (fun e => h3 e.symm), h6.block k h1]
  refine ⟨fun k => FJ k ∨ (w.heap.size ≤ k ∧ k < (w9.setCell ⟨p, 0, none⟩ v').heap.size), ⟨v', Vs ++ [x], { tb := h.tb.same (by omega) (fun k hk => hun k (h.tb.lt k hk) (by have := h.bF k hk; omega) fun e => by have := hvl k e; have := h.bF k hk; omega), box := ?_, own := OwnR.away ho ⟨p, 0, none⟩ v' (fun e => by have := (ho.lt p e).1; omega), eq := by rw [List.map_append, h.eq, he]; rfl, ea := fun y hy => ?_, fb := fun k hk => .inl (h.fb k hk), old := fun k hk => (hun k (by omega) (by omega) (fun e => by have := hvl k e; omega)).trans (h.old k hk), fp := .inl h.fp, fo := fun k hk => ?_, bF := h.bF, lt := fun k hk => ?_ }⟩, ?_, fun k hk => hk.imp (fun h => h) fun h => h.1⟩
  · exact ((h.box.kept h6).grown hg (fun e => by have := hvl p e.symm; omega)).set 0 v'
  · rcases List.mem_append.1 hy with hy | hy
    · obtain ⟨e1, e2⟩ := h.ea y hy
      refine ⟨e1.same (by omega) fun h0 k hk => ?_, fun h0 k hk => ?_⟩
      · obtain ⟨f1, f2, f3⟩ := e2 h0 k hk
        exact hun k (h.lt k f1) (by omega) f3
      · obtain ⟨f1, f2, f3⟩ := e2 h0 k hk
        refine ⟨.inl f1, f2, fun e => ?_⟩
        rcases hv k e with h7 | h7
        · exact f3 h7
        · have := h.lt k f1
          omega
    · rw [List.mem_singleton.1 hy]
      have hlt : 0 < x.wait.length → ∀ k, x.v.ownBlock = some k → w.heap.size ≤ k ∧ k < w5.heap.size := fun h0 k hk => ⟨nx k hk, hx.lt h0 k hk⟩
      refine ⟨hx.same (by omega) fun h0 k hk => ?_, fun h0 k hk => ?_⟩
      · obtain ⟨f1, f2⟩ := hlt h0 k hk
        rw [Below.heap_setCell _ _ _ _ (by show k ≠ p; omega), hg.block k (by omega) (fun e => by have := hvl k e.symm; omega), hb6.block k f2]
      · obtain ⟨f1, f2⟩ := hlt h0 k hk
        refine ⟨.inr ⟨f1, by omega⟩, by omega, fun e => ?_⟩
        rcases hv k e with h7 | h7
        · have := hvl k h7
          omega
        · omega
  · rcases hv k hk with h7 | h7
    · exact .inl (h.fo k h7)
    · have := (ho.lt k hk).2
      exact .inr ⟨by omega, by omega⟩
  · rcases hk with hk | hk
    · have := h.lt k hk
      omega
    · exact hk.2
  · exact ((Only.of_below h6).trans (Only.grown hg fun k hk => h.fo k hk)).set ⟨p, 0, none⟩ v' h.fp

set_option maxHeartbeats 8000000 in
set_option maxRecDepth 100000 in
theorem tView1_any {vv : Value} {Vs : List Lr} (h : VwJ b ml mc pt Gf cl F T w0 p i FJ w vv Vs) (hi : i < T.ids.length) (h32 : T.ids.length ≤ 32) :
    Calls Try.prog 50 #[.int .i64 T.ids[i], ptr18 (pt T.ids[i]), .pointer (some ⟨p, 0, none⟩)] w fun e w' => e = .returned (.tuple #[]) ∧ ∃ FJ', (∃ vv' Vs', VwJ b ml mc pt Gf cl F T w0 p (i + 1) FJ' w' vv' Vs') ∧ Mv FJ FJ' w w' := by
  have hm := List.getElem_mem hi
  have hlks : T.lks.take (i + 1) = T.lks.take i ++ [(T.ids[i], T.hd T.ids[i], T.wt T.ids[i])] := by
    have hl : i < T.lks.length := by simpa [Tb.lks] using hi
    rw [List.take_succ_eq_append_getElem hl]
    simp [Tb.lks]
  have HV := Lib.hid fun (w' : World) (hb : Below w.heap.size w w') => lkViewN_any ((h.tb.kept hb).lk _ hm)
  generalize T.ids[i] = id at *
  obtain ⟨hd, hhd⟩ : ∃ hd, T.hd id = hd := ⟨_, rfl⟩
  obtain ⟨L, hL⟩ : ∃ L, T.wt id = L := ⟨_, rfl⟩
  simp only [hhd, hL] at HV
  rw [hhd, hL] at hlks
  obtain ⟨n, hn⟩ : ∃ n, Vs.length = n := ⟨_, rfl⟩
  have hni : n ≤ 32 := by
    have := congrArg List.length h.eq
    rw [List.length_map, List.length_take] at this
    omega
  obtain ⟨a, c, e⟩ := RowsAt.form (OwnR.rows csL_len h.own)
  rw [hn] at e
  subst e
  obtain ⟨m, hmm⟩ : ∃ m, L.length = m := ⟨_, rfl⟩
  have HM := Lib.hid hmm
  have H := Lib.hid h
  have HN := Lib.hid hn
  have HLK := Lib.hid hlks
  have c0 := h.box.cell 0 rfl
  have z0 := h.box.free 0 rfl
  have HDR := Lib.hid (Below.refl w.heap.size w).drew
  have hpz : p < w.heap.size := h.lt p h.fp
  have hnp : some p ≠ (Value.slice a n c).ownBlock := fun e => by have := (h.own.lt p e.symm).1; omega
  have HNP := Lib.hid hnp
  have HPZ := Lib.hid hpz
  have c0d := (HDR.out.cell (World.block_lt_of_cell? _ _ c0)).trans c0
  obtain ⟨i1, hi1, hz1, hs1, hb1⟩ := info_parts info_lock20
  have HOW := Lib.hid fun (w5 : World) (hb : Below w.heap.size w w5) (sa : Option Addr) (sc : Nat) => (show (w5.alloc (.cells #[.int .i64 id, .int .i64 hd, .slice sa m sc] 63)).ownsRow (p + 1) 63 3 (.slice a n c) n (flats csL Vs) from by
    have h9 := OwnR.alloc (OwnR.kept h.own hb) (.cells #[.int .i64 id, .int .i64 hd, .slice sa m sc] 63)
    unfold OwnR at h9
    rwa [hn] at h9)
  clear h hi hm hlks hn hmm hhd hL hnp hpz
  go_enter Try.func50, Try.ntmps50
  go_upto_region 0 with fail
  go_region_law (first
    | (go_simp; go_at_call 51; (with_reducible refine (HV.out _ HDR.out).mono ?_); rintro e w5 ⟨v5, rfl, h5, n5, b5⟩; obtain ⟨sa, sc, e5⟩ := h5.form; simp only [HM.out] at e5; subst e5; have hb5 := HDR.out.trans b5; have HB5 := Lib.hid hb5; have H5 := Lib.hid h5; have N5 := Lib.hid n5
       have c5 := (hb5.cell (World.block_lt_of_cell? _ _ c0)).trans c0
       have hal := (Below.refl w5.heap.size w5).alloc (Nat.le_refl _) (.cells #[.int .i64 id, .int .i64 hd, .slice sa m sc] 63)
       have HAL := Lib.hid hal
       have c6 := (hal.cell (World.block_lt_of_cell? _ _ c5)).trans c5
       have HPB := Lib.hid (show p + 1 ≤ w5.heap.size from Nat.le_trans HPZ.out hb5.size)
       clear h5 n5 b5 hb5 hal)
    | (refine step_append_lies _ (by rfl) _ _ _ (by rfl) (p + 1) 63 i1 _ 3 40 Try.underlying30 hi1 hz1 hs1 hb1 rfl (by omega) (.slice a n c) n (flats csL Vs) (by rfl) (HOW.out w5 HB5.out sa sc)
                    ⟨w5.heap.size, 0, none⟩ 1 1 [.int .i64 id, .int .i64 hd, .slice sa m sc] (by rfl) (by rfl) (World.news_of_block (cs := #[.int .i64 id, .int .i64 hd, .slice sa m sc]) (t := 63) (fr := (0, 0)) (heap_alloc_new w5 _)) (by simp [Value.oneCell'])
                    (by omega) (by unfold maxLen; omega) (by omega) (by have := HPB.out; simp; omega) (w5.heap.size + 1) (by simp) ?_
       intro gg cap w9 ho9 hg9 hat9 hlt9
       have hY9 := (((H.out.box.kept HB5.out).kept HAL.out).grown hg9 HNP.out)
       have c9 := hY9.cell 0 rfl
       have z9 := hY9.free 0 rfl))
  all_goals (
    have hor : OwnR w9 (p + 1) 63 3 csL (.slice (some ⟨gg, 0, none⟩) (n + 1) cap) (Vs ++ [⟨id, hd, sa, sc, L⟩]) := OwnR.snoc ho9 (by rw [HN.out]) (by rw [show csL ⟨id, hd, sa, sc, L⟩ = [.int .i64 id, .int .i64 hd, .slice sa m sc] from by unfold csL; dsimp only [Lr.v]; rw [HM.out]])
    go_end0
    exact ⟨rfl, H.out.more HB5.out HAL.out hg9 ⟨id, hd, sa, sc, L⟩ (by dsimp only [Lr.v]; rw [HM.out]; exact H5.out) (fun k hk => Nat.le_trans HDR.out.size (N5.out k (by dsimp only [Lr.v] at hk; rw [HM.out] at hk; exact hk))) hor (fun k hk => by
      simp [Value.ownBlock] at hk
      subst hk
      exact hat9) HLK.out⟩)

set_option maxHeartbeats 8000000 in
set_option maxRecDepth 100000 in
theorem tView_any (h : TbR b ml mc pt Gf cl F w T) (hok : T.Ok) : Calls Try.prog 21 #[ptr18 b] w fun e w' => ∃ v Vs, e = .returned v ∧ LocksAt w' v Vs ∧ Vs.map lkp = T.lks ∧ Below w.heap.size w w' := by
  have hmf : ∀ (fn : Fn) (first cap : Array Value) (w : World), (Instr.makeFunc fn first cap).run Try.prog w = .ok (.func fn first cap) w := fun _ _ _ _ => rfl
  have hal := (Below.refl w.heap.size w).alloc (Nat.le_refl _) (.cells #[.slice none 0 0] 30)
  have hX := Blk.new w [.slice none 0 0] 30
  have hsz : (w.alloc (.cells #[.slice none 0 0] 30)).heap.size = w.heap.size + 1 := by simp
  have h1 := h.kept hal
  have hlen := may_len hok.may
  have hJ : VwJ b ml mc pt Gf cl F T w w.heap.size 0 (fun k => k < w.heap.size ∨ k = w.heap.size) (w.alloc (.cells #[.slice none 0 0] 30)) (.slice none 0 0) [] :=
    { tb := h1, box := hX, own := OwnR.nil _ _ _ _ _, eq := rfl, ea := fun x hx => (by cases hx), fb := fun k hk => .inl hk, old := fun k hk => hal.block k hk, fp := .inr rfl, fo := fun k hk => by simp [Value.ownBlock] at hk, bF := h.lt, lt := fun k hk => by rw [hsz]; omega }
  have HE := Lib.hid (tEach_any (VwJ.keep (b := b) (ml := ml) (mc := mc) (pt := pt) (Gf := Gf) (cl := cl) (F := F) (T := T) (w0 := w) (p := w.heap.size)) 50 #[.pointer (some ⟨w.heap.size, 0, none⟩)] (fun _ _ => by kernel_rfl) h1 hok _ ⟨_, _, hJ⟩ hJ.lt (fun i F' w' ⟨_, _, h⟩ => ⟨h.tb.blk, h.tb.lm⟩) (fun i F' w' hi ⟨_, _, h⟩ => tView1_any h hi hlen))
  have HAL := Lib.hid hal
  have HF := Lib.hid h.lt
  have HLL := Lib.hid (show T.lks.take T.ids.length = T.lks from by rw [show T.ids.length = T.lks.length by simp [Tb.lks], List.take_length])
  clear h hok hal hX hsz h1 hJ hlen
  go_enter Try.func21, Try.ntmps21
  go_upto_region 3 with (go_at_call 39; (with_reducible refine HE.out.mono ?_); rintro e w1 ⟨rfl, FJ', ⟨vv, Vs, hj⟩, hm⟩; have HJ2 := Lib.hid hj; have HM2 := Lib.hid hm; have c0 := hj.box.cell 0 rfl; clear hj hm)
  go_wp2
  go_ret
  refine ⟨_, Vs, rfl, ⟨OwnR.rows csL_len HJ2.out.own, fun x hx => (HJ2.out.ea x hx).1⟩, by rw [HJ2.out.eq, HLL.out], ?_⟩
  have ho := HM2.out.only
  have ha := HAL.out
  exact ⟨ho.os.trans ha.os, ho.tape.trans ha.tape, ho.output.trans ha.output, Nat.le_trans ha.size ho.size, HJ2.out.old⟩
end
end Go.Proofs.Ytieopbeimcmheaa
/- Stage 20's program: New; what a nil table tells. -/
namespace Go.Proofs.Ytieopbeimcmheaa
open Go.RowKit Go.Maps

/-- a lock that a call has made, in blocks from B on -/
def lkLock (B : Nat) (id : Int) : Lk := ⟨Nat, ⟨0⟩, fun x => ptr18 x, fun x w => ∃ F, LkAt F w (ptr18 x) ⟨id, 0, []⟩ ∧ ∀ k, F k → B ≤ k⟩
theorem lkLock_at {P : Program} {o : Oper} {a : Act} {W : World} {G : World → Prop} {B : Nat} {id : Int} {f : FuncId} {args : Array Value} (hB : B ≤ W.heap.size) (he : ∀ k : In W, (execOp a.eval o).run P k.w = .ok (.enter f args) k.w)
    (hc : ∀ k : In W, Calls P f args k.w fun e w' => ∃ p F, e = .returned p ∧ LkAt F w' p ⟨id, 0, []⟩ ∧ (∀ j, F j → k.w.heap.size ≤ j) ∧ Below k.w.heap.size k.w w') : (lkLock B id).at P o a W G :=
  ⟨fun _ _ _ ⟨F, h, hn⟩ hb => ⟨F, h.kept hb, hn⟩, fun k _ => by
    rw [he k]
    refine ⟨rfl, (hc k).mono ?_⟩
    rintro e w' ⟨p, F, rfl, h1, h2, h3⟩
    have hp := h1
    obtain ⟨x, m, G', rfl, _⟩ := hp
    exact ⟨x, rfl, ⟨F, h1, fun j hj => Nat.le_trans hB (Nat.le_trans k.h.size (h2 j hj))⟩, h3.mono k.h.size⟩⟩
/-- a lock more -/
theorem TbR.more {b ml mc : Nat} {pt : Int → Nat} {Gf : Int → Nat → Prop} {cl : Int → Cl} {F : Nat → Prop} {w w2 : World} {L : List Int} (h : TbR b ml mc pt Gf cl F w (Tb.new L)) (hb : Below w.heap.size w w2) {id : Int} (h64 : I64 id) (hm : id ∉ L) (hf : L.length ≤ 64) {x : Nat} {F1 : Nat → Prop} (hl : LkAt F1 w2 (ptr18 x) ⟨id, 0, []⟩) (hn : ∀ k, F1 k → w.heap.size ≤ k) :
    ∃ w3, (Instr.mapUpdate 66 (.map (some ml)) (.int .i64 id) (ptr18 x)).run Try.prog w2 = .ok () w3 ∧ ∃ F', TbR b ml mc (upF pt id x) (upF Gf id F1) cl F' w3 (Tb.new (L ++ [id])) ∧ Mv F F' w w3 := by
  have k := h.kept hb
  obtain ⟨w3, q1, q2, q3⟩ := MapL.put k.lm (by show L.length ≤ 1000000; omega) h64 (some x)
  obtain ⟨n1, n2⟩ := h.bne
  have l1 := h.lt b h.fb
  have l2 := h.lt ml h.fl
  have l3 := h.lt mc h.fc
  have hz := q3.size
  have hz2 := hb.size
  have hnone : lkG (Tb.new L) pt id = none := if_neg hm
  rw [hnone, if_neg (by simp)] at q2
  have hun : ∀ k, k < w2.heap.size → k ≠ ml → w3.heap[k]? = w2.heap[k]? := fun k hk hne => q3.block k hk fun e => hne (Option.some.inj e)
  have hmem : ∀ i, i ∈ (Tb.new (L ++ [id])).ids ↔ i ∈ L ∨ i = id := fun i => by show i ∈ L ++ [id] ↔ _; simp
  have hF1 : ∀ k, F1 k → k < w2.heap.size := hl.lt
  refine ⟨w3, q1, fun k => F k ∨ F1 k, { blk := k.blk.same (hun b k.blt (fun e => n1 e.symm)), lm := ?_, cm := MapG.same k.cm (hun mc (MapG.lt k.cm) (fun e => h.ne e.symm)), lk := fun i hi => ?_, ch := fun t ht => (by cases ht), cf := fun t ht => (by cases ht), ap := fun i hi => ?_, di := fun i hi j hj hne k => ?_, ne := h.ne, fb := .inl h.fb, fl := .inl h.fl, fc := .inl h.fc, fg := fun i hi k hk => ?_, lt := fun k hk => ?_ }, ⟨(Only.of_below hb).trans (Only.grown q3 fun j hj => by rw [← Option.some.inj hj]; exact h.fl), fun j hj => hj.imp (fun h => h) (hn j)⟩⟩
  · have e : lkG (Tb.new (L ++ [id])) (upF pt id x) = updG (lkG (Tb.new L) pt) id (some (some x)) := by
      funext i
      show (if i ∈ L ++ [id] then some (some (upF pt id x i)) else none) = (if i = id then some (some x) else (if i ∈ L then some (some (pt i)) else none))
      by_cases e : i = id
      · rw [if_pos (by simp [e]), if_pos e, e, upF_same]
      · rw [if_neg e, upF_ne _ _ e]
        by_cases hi : i ∈ L
        · rw [if_pos (by simp [hi]), if_pos hi]
        · rw [if_neg (by simp [hi, e]), if_neg hi]
    rw [e]
    show MapL w3 ml (L ++ [id]).length _
    rw [List.length_append]
    exact q2
  · show LkAt (upF Gf id F1 i) w3 (ptr18 (upF pt id x i)) ⟨i, 0, []⟩
    by_cases e : i = id
    · subst e
      rw [upF_same, upF_same]
      exact hl.same hz fun k hk => hun k (hF1 k hk) (by have := hn k hk; omega)
    · rw [upF_ne _ _ e, upF_ne _ _ e]
      have hi2 : i ∈ L := ((hmem i).1 hi).resolve_right e
      exact (k.lk i hi2).same hz fun j hj => hun j ((k.lk i hi2).lt j hj) fun e => (h.ap i hi2).2.1 (e ▸ hj)
  · by_cases e : i = id
    · subst e
      rw [upF_same]
      exact ⟨fun h => by have := hn b h; omega, fun h => by have := hn ml h; omega, fun h => by have := hn mc h; omega⟩
    · rw [upF_ne _ _ e]
      exact h.ap i (((hmem i).1 hi).resolve_right e)
  · by_cases e : i = id
    · subst e
      rw [upF_same, upF_ne _ _ (fun e => hne e.symm)]
      intro h1 h2
      have := hn k h1
      have := h.lt k (h.fg j (((hmem j).1 hj).resolve_right fun e => hne e.symm) k h2)
      omega
    · have hi2 := ((hmem i).1 hi).resolve_right e
      rw [upF_ne _ _ e]
      by_cases e2 : j = id
      · subst e2
        rw [upF_same]
        intro h1 h2
        have := hn k h2
        have := h.lt k (h.fg i hi2 k h1)
        omega
      · rw [upF_ne _ _ e2]
        exact h.di i hi2 j (((hmem j).1 hj).resolve_right e2) hne k
  · by_cases e : i = id
    · subst e
      rw [upF_same] at hk
      exact .inr hk
    · rw [upF_ne _ _ e] at hk
      exact .inl (h.fg i (((hmem i).1 hi).resolve_right e) k hk)
  · rcases hk with hk | hk
    · have := h.lt k hk
      omega
    · have := hF1 k hk
      omega

set_option maxHeartbeats 4000000 in
set_option maxRecDepth 100000 in
theorem tNewNo_any (va : Value) (l : List Int) (w : World) (ha : IntsAt w va l) (hl : l.length ≤ 1000) (hm : mayB l = false) : Calls Try.prog 8 #[va] w fun e w' => e = .returned (.tuple #[.pointer none, .int .i64 1]) ∧ Below w.heap.size w w' := by
  have GM := Lib.hid (tMay_any va l w ha hl)
  rw [hm] at GM
  obtain ⟨a, c, rfl⟩ := ha.form
  clear ha hl hm
  go_enter Try.func8, Try.ntmps8
  go_wp2_with (go_at_call 25; (with_reducible refine GM.out.mono ?_); rintro e w1 ⟨rfl, b1⟩; have HB1 := Lib.hid b1; clear b1)
  exact bodyPost_ret (v := .tuple #[.pointer none, .int .i64 1]) (by simp [results, Try.results8, go_sem]) rfl ⟨rfl, HB1.out⟩

set_option maxHeartbeats 16000000 in
set_option maxRecDepth 100000 in
theorem tNew_any (va : Value) (l : List Int) (w : World) (ha : IntsAt w va l) (hm : mayB l = true) : Calls Try.prog 8 #[va] w fun e w' => ∃ p, e = .returned (.tuple #[p, .int .i64 0]) ∧ ∃ F, TbAt F w' p (Tb.new l) ∧ (∀ k, F k → w.heap.size ≤ k) ∧ Below w.heap.size w w' := by
  have h32 := may_len hm
  have GM := Lib.hid (tMay_any va l w ha (by omega))
  rw [hm] at GM
  have HOK := Lib.hid (new_ok hm)
  have HA := Lib.hid ha
  have HLN := Lib.hid h32
  have HIDS := Lib.hid (show l.Nodup ∧ ∀ x ∈ l, I64 x from ⟨ris_nodup (may_ris hm), fun x hx => (new_ok hm).ids64 hx⟩)
  obtain ⟨a, c, rfl⟩ := ha.form
  have hmk1 : ∀ w : World, (Instr.makeMap 66 none).run Try.prog w = .ok (.map (some w.heap.size)) (w.alloc (.map #[] 0)) := fun w => by kernel_rfl
  have hmk2 : ∀ w : World, (Instr.makeMap 67 none).run Try.prog w = .ok (.map (some w.heap.size)) (w.alloc (.map #[] 0)) := fun w => by kernel_rfl
  clear ha h32 hm
  go_enter Try.func8, Try.ntmps8
  go_upto_region 4 with (go_at_call 25; (with_reducible refine GM.out.mono ?_); rintro e w1 ⟨rfl, b1⟩; have HB1 := Lib.hid b1; clear b1)
  have a1 := (Below.refl w1.heap.size w1).alloc (Nat.le_refl _) (.map #[] 0)
  have a2 := (Below.refl (w1.alloc (.map #[] 0)).heap.size (w1.alloc (.map #[] 0))).alloc (Nat.le_refl _) (.map #[] 0)
  have a3 := (Below.refl ((w1.alloc (.map #[] 0)).alloc (.map #[] 0)).heap.size ((w1.alloc (.map #[] 0)).alloc (.map #[] 0))).alloc (Nat.le_refl _) (.cells #[.map (some w1.heap.size), .map (some (w1.heap.size + 1))] 69)
  have s1 : (w1.alloc (.map #[] 0)).heap.size = w1.heap.size + 1 := by simp
  have s2 : ((w1.alloc (.map #[] 0)).alloc (.map #[] 0)).heap.size = w1.heap.size + 1 + 1 := by simp
  have m1 : MapL (w1.alloc (.map #[] 0)) w1.heap.size 0 (fun _ => none) := MapG.new w1
  have m2 : MapC ((w1.alloc (.map #[] 0)).alloc (.map #[] 0)) (w1.heap.size + 1) 0 (fun _ => none) := s1 ▸ MapG.new (w1.alloc (.map #[] 0))
  have hX := Blk.new ((w1.alloc (.map #[] 0)).alloc (.map #[] 0)) [.map (some w1.heap.size), .map (some (w1.heap.size + 1))] 69
  rw [s2] at hX
  have ht : TbR (w1.heap.size + 1 + 1) w1.heap.size (w1.heap.size + 1) (fun _ => 0) (fun _ _ => False) (fun _ => cl0) (fun k => w1.heap.size ≤ k ∧ k < w1.heap.size + 3) (((w1.alloc (.map #[] 0)).alloc (.map #[] 0)).alloc (.cells #[.map (some w1.heap.size), .map (some (w1.heap.size + 1))] 69)) (Tb.new []) :=
    { blk := hX, lm := MapG.kept (MapG.kept m1 a2) a3, cm := MapG.kept m2 a3, lk := fun _ h => (by cases h), ch := fun _ h => (by cases h), cf := fun _ h => (by cases h), ap := fun _ h => (by cases h), di := fun _ h => (by cases h), ne := by omega, fb := by omega, fl := by omega, fc := by omega, fg := fun _ h => (by cases h), lt := fun k hk => by simp; omega }
  have HT := Lib.hid ht
  have HB2 := Lib.hid (HB1.out.trans ((a1.trans ((a2.trans (a3.mono a2.size)).mono a1.size)).mono HB1.out.size))
  have HW1 := Lib.hid HB1.out.size
  generalize ((w1.alloc (.map #[] 0)).alloc (.map #[] 0)).alloc (.cells #[.map (some w1.heap.size), .map (some (w1.heap.size + 1))] 69) = w2 at *
  obtain ⟨b, hb⟩ : ∃ b, w1.heap.size + 1 + 1 = b := ⟨_, rfl⟩
  rw [hb] at HT ⊢
  obtain ⟨ml, hml⟩ : ∃ ml, w1.heap.size = ml := ⟨_, rfl⟩
  obtain ⟨mc, hmc⟩ : ∃ mc, w1.heap.size + 1 = mc := ⟨_, rfl⟩
  have HT := Lib.hid (show TbR b ml mc (fun _ => 0) (fun _ _ => False) (fun _ => cl0) (fun k => w1.heap.size ≤ k ∧ k < w1.heap.size + 3) w2 (Tb.new []) from by rw [← hml, ← hmc]; exact HT.out)
  clear a1 a2 a3 s1 s2 m1 m2 hX ht hmk1 hmk2 hb hml hmc
  go_wp2
  go_loopw [16] (fun iv wr => ∃ (k : Nat) (pt : Int → Nat) (Gf : Int → Nat → Prop) (F : Nat → Prop), k ≤ l.length ∧ iv = .int .i64 k ∧ TbR b ml mc pt Gf (fun _ => cl0) F wr (Tb.new (l.take k)) ∧ (∀ j, F j → w.heap.size ≤ j) ∧ Below w.heap.size w wr) (fun iv _ => l.length - (intOf iv).toNat)
  case atStart => exact ⟨0, _, _, _, by omega, rfl, HT.out, fun j hj => by have := HW1.out; omega, HB2.out⟩
  case round =>
    clear HT
    obtain ⟨k, pt, Gf, F, hk, rfl, htb, hF, hB⟩ := hrel
    have HTB := Lib.hid htb
    have HF := Lib.hid hF
    have HB := Lib.hid hB
    by_cases hlt : k < l.length
    · obtain ⟨g, o, cc, e, _, _, p0⟩ := (HA.out.below hB).spot k hlt
      cases e
      have HLT := Lib.hid hlt
      have hno := not_take HIDS.out.1 k hlt
      have h64 := HIDS.out.2 _ (List.getElem_mem hlt)
      have htk : l.take (k + 1) = l.take k ++ [l[k]] := List.take_succ_eq_append_getElem hlt
      generalize l[k] = id at *
      have HMORE := Lib.hid fun (w5 : World) (hb : Below wr.heap.size wr w5) (x : Nat) (F1 : Nat → Prop) (hl : LkAt F1 w5 (ptr18 x) ⟨id, 0, []⟩) (hn : ∀ j, F1 j → wr.heap.size ≤ j) => htb.more hb h64 hno (by rw [List.length_take]; have := HLN.out; omega) hl hn
      have HTK := Lib.hid htk
      have HNW := Lib.hid fun (w' : World) => lkNew_any id w'
      have c0 := htb.blk.cell 0 rfl
      have k2 : (0 : Int) ≤ (k : Int) := by omega
      have k3 : (k : Int) < (l.length : Int) := by omega
      have k4 : (k : Int) ≤ 32 := by have := HLN.out; omega
      clear htb hF hB hno htk hk h64
      go_upto_region 7 with fail
      refine wp_region_chain 7 [.calm 6, .own (lkLock wr.heap.size id)] [6] rfl (by kernel_rfl) (by simp) (by kernel_rfl) (by kernel_rfl) ?_
      simp only [List.take_succ_cons, List.take_zero, List.drop_succ_cons, List.drop_zero]
      refine ⟨by simp, fun M => ?_⟩
      simp only [List.take_succ_cons, List.take_zero, List.drop_succ_cons, List.drop_zero]
      have e1 := fun n : In M.w => n.cell (M.cell c0)
      repeat (go_big_quiet_step (fail))
      refine wpQuiet_nil ?_
      clear e1 M
      refine ⟨rfl, lkLock_at (f := 26) (args := #[.int .i64 id]) (Nat.le_refl _) (fun k => by simp [go_sem]) (fun k => HNW.out k.w), fun y A hA => ?_⟩
      simp [Act.put, lkLock] at hA
      subst hA
      refine ⟨rfl, fun w7 hb7 h7 => ?_⟩
      obtain ⟨F1, q1, q2⟩ := h7
      obtain ⟨w8, hrun, F8, s1, s2⟩ := HMORE.out w7 hb7 y F1 q1 q2
      have S1 := Lib.hid s1
      have S2 := Lib.hid s2
      clear hb7 q1 q2 s1 s2 c0 p0
      go_wp2
      clear hrun
      go_roundw
      case rel => exact ⟨k + 1, _, _, F8, by have := HLT.out; omega, by go_num, by rw [HTK.out]; exact S1.out, S2.out.from_ HF.out HB.out.size, HB.out.trans (S2.out.only.below HF.out HB.out.size)⟩
      case measure => have := HLT.out; simp [intOf] <;> omega
    · have hke : k = l.length := by omega
      subst hke
      rw [List.take_length] at HTB
      have g2 : ¬ (l.length : Int) < (l.length : Int) := by omega
      clear htb hF hB hlt hk
      go_wp2
      exact bodyPost_ret (v := .tuple #[ptr18 b, .int .i64 0]) (by simp [results, Try.results8, go_sem]) rfl ⟨_, rfl, F, ⟨HOK.out, b, ml, mc, pt, Gf, _, rfl, HTB.out⟩, HF.out, HB.out⟩

/-! ### A nil table -/
theorem tEnter_nil (t : Int) (v : Value) (w : World) : Calls Try.prog 10 #[.pointer none, .int .i64 t, v] w fun e w' => e = .returned (.int .i64 9) ∧ Below w.heap.size w w' := by
  go_enter Try.func10, Try.ntmps10
  go_wp2
  go_ret
  exact ⟨rfl, Below.refl _ _⟩
theorem tLeave_nil (t : Int) (w : World) : Calls Try.prog 12 #[.pointer none, .int .i64 t] w fun e w' => e = .returned (.bool false) ∧ Below w.heap.size w w' := by
  have HF := Lib.hid (show Calls Try.prog 36 #[.pointer none, .int .i64 t] w fun e w' => e = .returned (.tuple #[.agg #[.slice none 0 0, .int .i64 0], .bool false]) ∧ Below w.heap.size w w' from tFind_nil t w)
  go_enter Try.func12, Try.ntmps12
  go_wp2_with (go_at_call 36; (with_reducible refine HF.out.mono ?_); rintro e w1 ⟨rfl, b1⟩; have HB1 := Lib.hid b1; clear b1)
  go_ret
  exact ⟨rfl, HB1.out.alloc HB1.out.size _⟩
theorem tGot_nil (t : Int) (w : World) : Calls Try.prog 16 #[.pointer none, .int .i64 t] w fun e w' => e = .returned (.tuple #[.int .i64 0, .int .i64 0, .bool false]) ∧ Below w.heap.size w w' := tGotC_any (.pointer none) t cl0 false w (tFind_nil t w)
theorem tIds_nil (w : World) : Calls Try.prog 29 #[.pointer none] w fun e w' => e = .returned (.slice none 0 0) ∧ Below w.heap.size w w' := by
  go_enter Try.func29, Try.ntmps29
  go_wp2
  go_ret
  exact ⟨rfl, Below.refl _ _⟩
set_option maxHeartbeats 1000000 in
theorem tEach_nil (f : Value) (w : World) : Calls Try.prog 39 #[.pointer none, f] w fun e w' => e = .returned (.tuple #[]) ∧ Below w.heap.size w w' := by
  have HID := Lib.hid (tIds_nil w)
  go_enter Try.func39, Try.ntmps39
  go_wp2
  refine wp_scope_goto 0 (fun _ a' w' => Below w.heap.size w w' ∧ ∃ u2 u3 u6 u7 u8 u9 u10 u11 u12 u13 u14 u15 u16 u17 u18 u19 u20 u21 u22 u23 u24 u25 u26 u27 u28, a' = { tmps := #[.pointer none, f, u2, u3, .slice none 0 0, .int .i64 0, u6, u7, u8, u9, u10, u11, u12, u13, u14, u15, u16, u17, u18, u19, u20, u21, u22, u23, u24, u25, u26, u27, u28], defers := [] }) rfl rfl ?_ ?_
  · rintro n a' w' ⟨hb, u2, u3, u6, u7, u8, u9, u10, u11, u12, u13, u14, u15, u16, u17, u18, u19, u20, u21, u22, u23, u24, u25, u26, u27, u28, rfl⟩ K _
    have HB := Lib.hid hb
    clear hb
    go_wp2
    simp only [Exit.jump]
    go_end0
    exact ⟨rfl, HB.out⟩
  · intro K hpass
    go_wp2_with (go_at_call 29; (with_reducible refine HID.out.mono ?_); rintro e w1 ⟨rfl, b1⟩; have HB1 := Lib.hid b1; clear b1)
    go_step3
    rename_i hback
    exact hback _ _ (hpass 0 _ _ ⟨HB1.out, _, _, _, _, _, _, _, _, _, _, _, _, _, _, _, _, _, _, _, _, _, _, _, _, _,  rfl⟩)
set_option maxHeartbeats 1000000 in
theorem tScan_nil (w : World) : Calls Try.prog 14 #[.pointer none] w fun e w' => e = .returned (.slice none 0 0) ∧ Below w.heap.size w w' := by
  have hmf : ∀ (fn : Fn) (first cap : Array Value) (w : World), (Instr.makeFunc fn first cap).run Try.prog w = .ok (.func fn first cap) w := fun _ _ _ _ => rfl
  have hal1 := (Below.refl w.heap.size w).alloc (Nat.le_refl _) (.cells #[.pointer none] 26)
  have hal2 := (Below.refl (w.alloc (.cells #[.pointer none] 26)).heap.size _).alloc (Nat.le_refl _) (.cells #[.slice none 0 0] 43)
  have hY := Blk.new (w.alloc (.cells #[.pointer none] 26)) [.slice none 0 0] 43
  rw [show (w.alloc (.cells #[.pointer none] 26)).heap.size = w.heap.size + 1 by simp] at hY
  have HE := Lib.hid (tEach_nil (.func (.func 40) #[] #[.pointer (some ⟨w.heap.size, 0, none⟩), .pointer (some ⟨w.heap.size + 1, 0, none⟩)]) ((w.alloc (.cells #[.pointer none] 26)).alloc (.cells #[.slice none 0 0] 43)))
  have HAL := Lib.hid (hal1.trans (hal2.mono hal1.size))
  have HY := Lib.hid hY
  clear hal1 hal2 hY
  go_enter Try.func14, Try.ntmps14
  go_upto_region 3 with (go_at_call 39; (with_reducible refine HE.out.mono ?_); rintro e w1 ⟨rfl, b1⟩; have HB1 := Lib.hid (HAL.out.trans (b1.mono HAL.out.size)); have c1 := (HY.out.kept b1).cell 0 rfl; clear b1)
  go_wp2
  go_ret
  exact ⟨rfl, HB1.out⟩
set_option maxHeartbeats 1000000 in
theorem tView_nil (w : World) : Calls Try.prog 21 #[.pointer none] w fun e w' => e = .returned (.slice none 0 0) ∧ Below w.heap.size w w' := by
  have hmf : ∀ (fn : Fn) (first cap : Array Value) (w : World), (Instr.makeFunc fn first cap).run Try.prog w = .ok (.func fn first cap) w := fun _ _ _ _ => rfl
  have hal := (Below.refl w.heap.size w).alloc (Nat.le_refl _) (.cells #[.slice none 0 0] 30)
  have hY := Blk.new w [.slice none 0 0] 30
  have HE := Lib.hid (tEach_nil (.func (.func 50) #[] #[.pointer (some ⟨w.heap.size, 0, none⟩)]) (w.alloc (.cells #[.slice none 0 0] 30)))
  have HAL := Lib.hid hal
  have HY := Lib.hid hY
  clear hal hY
  go_enter Try.func21, Try.ntmps21
  go_upto_region 3 with (go_at_call 39; (with_reducible refine HE.out.mono ?_); rintro e w1 ⟨rfl, b1⟩; have HB1 := Lib.hid (HAL.out.trans (b1.mono HAL.out.size)); have c1 := (HY.out.kept b1).cell 0 rfl; clear b1)
  go_wp2
  go_ret
  exact ⟨rfl, HB1.out⟩
end Go.Proofs.Ytieopbeimcmheaa
