/- Texts of this proof, joined: WaTblL; OpenBss; OpenAct20; WaTblAll. -/
import Derived.Test.YtjmgokjljmmmgaaGreatBun22
import Derived.Deep.DeepCutAuto
import Derived.Lib.SmallJoins
import Derived.ChangeArms
import Derived.Deep.Strs
/- Stage 21: the law WaitsTables. -/
namespace Go.Proofs.YtjmgokjljmmmgaaGreat
open Go.RowKit Go.Maps

theorem few_all21 {l : List Ac} {m : Int} (h : fewB l m = true) : (l.length : Int) ≤ m ∧ ∀ x ∈ l, x.want.length ≤ 40 := by
  unfold fewB at h
  rw [Bool.and_eq_true] at h
  exact ⟨of_decide_eq_true h.1, fun x hx => of_decide_eq_true (List.all_eq_true.1 h.2 x hx)⟩
theorem csLe_one (x : Le) : ∀ u ∈ csLe x, u.oneCell' = true := by
  intro u hu
  simp [csLe] at hu
  rcases hu with rfl | rfl | rfl | rfl | rfl | rfl | rfl <;> rfl
theorem info_lease : (Tryz.prog.info? 43).map (fun i => (i.zero, i.size, i.bytes)) = some (some (.agg #[.int .i64 0, .int .i64 0, .int .i64 0, .int .i64 0, .int .i64 0, .int .i64 0, .slice none 0 0]), 7, 72) := by kernel_rfl
theorem appLe {ops : Array Oper} {rest : List Oper} {o : Oper} {a : Act} {Q : Exit → Act → World → Prop} {B : Nat} {w : World} (x : Le) {v : Value} {l : List Le} (hown : OwnR w B 43 7 csLe v l) (hB : B ≤ w.heap.size) (hl : l.length ≤ 1000000)
    (hgd : o.guard = none) (s y : Operand) (ho : o.op = .call { callee := .builtin .append, args := #[s, y], argTypes := #[38, 38] }) (hs : a.eval s = v) (hx : a.eval y = .slice (some ⟨w.heap.size, 0, none⟩) 1 1)
    (hK : ∀ v' w', OwnR w' B 43 7 csLe v' (l ++ [x]) → Below B w w' → wpList Tryz.prog ops Q rest (a.put o.dst v') w') : wpList Tryz.prog ops Q (o :: rest) a (w.alloc (.cells #[.int .i64 x.token, .int .i64 x.task, .int .i64 x.worker, .int .i64 x.unit, .int .i64 x.due, .int .i64 x.got, x.v] 43)) := by
  obtain ⟨i, hi, hz, hs1, hb1⟩ := info_parts info_lease
  exact appK csLe_len (by decide) csLe_one 43 38 i _ 72 Tryz.underlying38 hi hz hs1 hb1 rfl (by decide) hown hB hl hgd s y ho hs hx fun v' w' h1 h2 _ _ => hK v' w' h1 h2
set_option maxHeartbeats 32000000 in
set_option maxRecDepth 100000 in
theorem waitsTables_any (va vl : Value) (ids : List Int) (l : List Ac) (w : World) (ha : IntsAt w va ids) (hl : ActsAt w vl l) (hg : ∀ a ∈ l, In18 a.token) :
    Calls Tryz.prog 3 #[va, vl] w fun e w' => e = .returned (.bool true) ∧ Below w.heap.size w w' := by
  have HAL := Lib.hid fun w => alive21_any w
  have HFW := Lib.hid fun w1 (hb : Below w.heap.size w w1) => refFew20_any vl l 40 w1 (RowsAt.kept hl.rows hb) (by omega)
  have HMY := Lib.hid (refMayN_any va ids w ha)
  have HA := Lib.hid ha
  have HL := Lib.hid hl
  have HG := Lib.hid hg
  obtain ⟨a1, c1, rfl⟩ := ha.form
  obtain ⟨a2, c2, rfl⟩ := RowsAt.form hl.rows
  clear ha hl hg
  cases hmb : mayB ids with
  | false =>
    rw [hmb] at HMY
    go_enter Tryz.func3, Tryz.ntmps3
    go_wp2_with (first
      | (go_at_call 4; (with_reducible refine HMY.out.mono ?_); rintro e w1 ⟨rfl, hb1⟩)
      | (go_at_call 6; (with_reducible refine (HAL.out _).mono ?_); rintro e w5 ⟨rfl, hb⟩))
    go_ret
    exact ⟨rfl, hb1.trans (hb.mono hb1.size)⟩
  | true =>
    rw [hmb] at HMY
    cases hfw : fewB l 40 with
    | false =>
      rw [hfw] at HFW
      go_enter Tryz.func3, Tryz.ntmps3
      go_wp2_with (first
        | (go_at_call 4; (with_reducible refine HMY.out.mono ?_); rintro e w1 ⟨rfl, hb1⟩; have HB1 := Lib.hid hb1; clear hb1)
        | (go_at_call 5; (with_reducible refine (HFW.out _ HB1.out).mono ?_); rintro e w2 ⟨rfl, hb2⟩; have HB2 := Lib.hid (HB1.out.trans (hb2.mono HB1.out.size)); clear hb2)
        | (go_at_call 6; (with_reducible refine (HAL.out _).mono ?_); rintro e w5 ⟨rfl, hb⟩))
      go_ret
      exact ⟨rfl, HB2.out.trans (hb.mono HB2.out.size)⟩
    | true =>
      rw [hfw] at HFW
      have HFE := Lib.hid (few_all21 hfw)
      have HN := Lib.hid fun w1 (hb : Below w.heap.size w w1) => sNew (w := w) hb _ ids (HA.out.below hb) hmb
      have hmk : ∀ w : World, (Instr.makeMap 31 none).run Tryz.prog w = .ok (.map (some w.heap.size)) (w.alloc (.map #[] 0)) := fun w => by kernel_rfl
      clear hmb hfw
      go_enter Tryz.func3, Tryz.ntmps3
      go_wp2_with (first
        | (go_at_call 4; (with_reducible refine HMY.out.mono ?_); rintro e w1 ⟨rfl, hb1⟩; have HB1 := Lib.hid hb1; clear hb1)
        | (go_at_call 5; (with_reducible refine (HFW.out _ HB1.out).mono ?_); rintro e w2 ⟨rfl, hb2⟩; have HB2 := Lib.hid (HB1.out.trans (hb2.mono HB1.out.size)); clear hb2)
        | (go_at_call 7; (with_reducible refine (HN.out _ HB2.out).mono ?_); rintro e w3 ⟨pb, rfl, hs⟩; have S0 := Lib.hid hs; clear hs))
      obtain ⟨mb, hmb⟩ : ∃ b, w3.heap.size = b := ⟨_, rfl⟩
      have HBW := Lib.hid (show w.heap.size ≤ mb by rw [← hmb]; exact (SideG.below S0.out).size)
      have S1 := Lib.hid (SideG.add S0.out ((Below.refl _ _).alloc (Nat.le_refl _) (.map #[] 0)) (Bes.map w3.heap.size 0 (fun _ => none)) (MapA.new w3) (fun k hk => by rw [show k = w3.heap.size from hk]; exact Nat.le_refl _))
      rw [hmb] at S1
      have HMB1 := Lib.hid hmb
      rw [hmb]
      clear hmb S0
      go_loopg [39] l.length (fun kx kv wr => ∃ (k m : Nat) (T : Tb) (g : Int → Option Ah), k ≤ l.length ∧ l.length - k ≤ kx ∧ kv = .int .i64 k ∧ Hid (m ≤ k) ∧ Hid (Wants w g T) ∧ Hid (SideG tbObj w wr (ptr18 pb) T [Bes.map mb m g]))
      case atStart => exact ⟨0, 0, Tb.new ids, fun _ => none, Nat.zero_le _, Nat.le_refl _, rfl, Nat.le_refl _, (fun t ht => (by cases ht)), S1.out⟩
      case round =>
        clear S1
        obtain ⟨k, m, T, g, hk, hkx, rfl, HM, HW, HS⟩ := hrel
        by_cases hlt : k < l.length
        · have HLT := Lib.hid hlt
          have K0 : (0 : Int) ≤ (k : Int) := by omega
          have K1 : (k : Int) < (l.length : Int) := by omega
          have K2 : (k : Int) ≤ 40 := by have := HFE.out.1; omega
          have HMK := Lib.hid (show m ≤ 1000 by have := HM.out; omega)
          have HWL := Lib.hid (HFE.out.2 _ (List.getElem_mem hlt))
          have HWI := Lib.hid (HL.out.each _ (List.getElem_mem hlt))
          obtain ⟨g', o, _, e, _, _, p0, p1, p2⟩ := RowsAt.atA (RowsAt.kept HL.out.rows (SideG.below HS.out)) k hlt
          cases e
          have hy := HG.out _ (List.getElem_mem hlt)
          obtain ⟨⟨kk, t, xa, xc, xw⟩, har⟩ : ∃ r, l[k]'hlt = r := ⟨_, rfl⟩
          rw [har] at p0 p1 p2 hy HWL HWI
          simp only at p0 p1 p2 hy HWL HWI
          have HY := Lib.hid hy
          obtain ⟨xn, hxn⟩ : ∃ n, xw.length = n := ⟨_, rfl⟩
          replace HWI : Hid (IntsAt w (.slice xa xw.length xc) xw) := HWI
          change _ = some (Value.slice xa xw.length xc) at p2
          rw [hxn] at p2 HWI HWL
          have HBL := Lib.hid (show mb < wr.heap.size from (SideG.head HS.out : MapA wr mb m g).lt)
          have SB := Lib.hid (SideG.swap (SideG.new HS.out (.int .i64 kk) [.int .i64 t, .slice xa xn xc] 33))
          have HXN := Lib.hid hxn
          clear hy har hk hxn
          go_upto_block 2 with fail
          go_cut [] (fun wx => ∃ (m : Nat) (T : Tb) (g : Int → Option Ah), Hid (m ≤ k + 1) ∧ Hid (Wants w g T) ∧ Hid (SideG tbObj w wx (ptr18 pb) T [Bes.map mb m g, Bes.blk wr.heap.size (.int .i64 kk) [.int .i64 t, .slice xa xn xc]]))
          case first =>
            by_cases f1 : kk = 1
            · subst f1
              have P := Lib.hid (sEnter SB.out t HY.out (.slice xa xn xc) xw (HWI.out.below (SideG.below SB.out)) (by have := HWL.out; have := HXN.out; omega))
              by_cases he : T.enterE t xw = 0
              · have HW2 := Lib.hid (HW.out.enter he (x := ⟨xa, xn, xc⟩) HXN.out.symm HWI.out)
                rw [he] at P
                generalize T.enter t xw = T2 at *
                clear he
                go_upto_region 13 with (go_at_call 8; (with_reducible refine P.out.mono ?_); rintro e w3 ⟨rfl, hs⟩; have SS := Lib.hid hs; have r1 := Blk.cell (vs := [.int .i64 1, .int .i64 t, .slice xa xn xc]) (SideG.head (SideG.less SS.out)) 1 rfl; have r2 := Blk.cell (vs := [.int .i64 1, .int .i64 t, .slice xa xn xc]) (SideG.head (SideG.less SS.out)) 2 rfl; clear hs)
                obtain ⟨w4, hrun, hm4, hg4⟩ := MapA.put (show MapA w3 mb m g from SideG.head SS.out) (by have := HMK.out; omega) (show I64 t from HY.out) ⟨xa, xn, xc⟩
                have S4 := Lib.hid (SideG.mput SS.out HBW.out (by intro s hs hf; have e0 : s = Bes.blk wr.heap.size (.int .i64 1) [.int .i64 t, .slice xa xn xc] := (by simpa using hs); subst e0; have e : mb = wr.heap.size := hf; have := HBL.out; omega) hg4 hm4)
                have HMM := Lib.hid (show (if (g t).isSome then m else m + 1) ≤ k + 1 by have := HM.out; split <;> omega)
                generalize (if (g t).isSome then m else m + 1) = m2 at *
                replace hrun : (Instr.mapUpdate 31 (.map (some mb)) (.int .i64 t) (.slice xa xn xc)).run Tryz.prog w3 = .ok () w4 := hrun
                clear hm4 hg4
                go_wp2
                go_meet
                exact ⟨m2, T2, _, HMM.out, HW2.out, S4.out⟩
              · have hb : (T.enterE t xw == 0) = false := by simpa using he
                have HST := Lib.hid (enter_stay he)
                rw [HST.out] at P
                generalize T.enterE t xw = er at *
                clear he HST
                go_wp2_with (go_at_call 8; (with_reducible refine P.out.mono ?_); rintro e w3 ⟨rfl, hs⟩; have SS := Lib.hid hs; clear hs)
                go_meet
                exact ⟨m, T, g, (by have := HM.out; show _ ≤ _; omega), HW.out, SS.out⟩
            · have f1b : (kk == 1) = false := beq_noI f1
              by_cases f2 : kk = 2
              · subst f2
                clear f1 f1b
                have P := Lib.hid (sLeave SB.out t HY.out)
                have HW2 := Lib.hid (HW.out.leave t)
                generalize T.leave t = T2 at *
                generalize decide (t ∈ T.toks) = er at *
                go_wp2_with (go_at_call 9; (with_reducible refine P.out.mono ?_); rintro e w3 ⟨rfl, hs⟩; have SS := Lib.hid hs; clear hs)
                go_meet
                exact ⟨m, T2, g, (by have := HM.out; show _ ≤ _; omega), HW2.out, SS.out⟩
              · have f2b : (kk == 2) = false := beq_noI f2
                by_cases f3 : kk = 3
                · subst f3
                  clear f1 f1b f2 f2b
                  have P := Lib.hid (sScan SB.out)
                  have HW2 := Lib.hid HW.out.scan
                  generalize T.scan = R at *
                  obtain ⟨T2, D⟩ := R
                  simp only at P HW2
                  go_wp2_with (go_at_call 10; (with_reducible refine P.out.mono ?_); rintro e w3 ⟨vg, rfl, _, _, hs⟩; have SS := Lib.hid hs; clear hs)
                  go_meet
                  exact ⟨m, T2, g, (by have := HM.out; show _ ≤ _; omega), HW2.out, SS.out⟩
                · have f3b : (kk == 3) = false := beq_noI f3
                  go_wp2
                  go_meet
                  exact ⟨m, T, g, (by have := HM.out; show _ ≤ _; omega), HW.out, SB.out⟩
          case rest =>
            clear SB HS HM HW HWL HWI HXN p0 p1 p2 HMK
            obtain ⟨m, T, g, HM, HW, HS⟩ := hcut
            generalize wr.heap.size = ba at *
            have HTK := Lib.hid (sTokens HS.out)
            have HOK := Lib.hid (SideG.ok HS.out)
            obtain ⟨tn, htn⟩ : ∃ tn, T.toks.length = tn := ⟨_, rfl⟩
            have HTN := Lib.hid htn
            clear htn
            go_wp2_with (go_at_call 11; (with_reducible refine HTK.out.mono ?_); rintro e w5 ⟨tv, rfl, hv, hb⟩; obtain ⟨ta, tc, hvf⟩ := hv.form; rw [HTN.out] at hvf; subst hvf; have S5 := Lib.hid (HS.out.kept hb); have HTV := Lib.hid hv; clear hb hv)
            have HTL := Lib.hid (show tn ≤ 64 by have h1 := HOK.out.few; have h3 := HTN.out; omega)
            clear HTK HS
            have hb5 := Below.refl w5.heap.size w5
            go_loopg [10, 72] tn (fun kx lv iv ws => ∃ i : Nat, i ≤ tn ∧ tn - i ≤ kx ∧ iv = .int .i64 i ∧ Hid (OwnR ws w5.heap.size 43 7 csLe lv ((T.toks.take i).map (leT T g))) ∧ Hid (Below w5.heap.size w5 ws))
            case atStart => exact ⟨0, Nat.zero_le _, Nat.le_refl _, rfl, OwnR.nil _ _ _ _ _, hb5⟩
            case round =>
              clear hb5
              obtain ⟨i, hi, hix, rfl, HO, HBR⟩ := hrel
              obtain ⟨aT, cT, e⟩ := RowsAt.form (OwnR.rows csLe_len HO.out)
              subst e
              by_cases hit : i < tn
              · have HIT := Lib.hid (And.intro hit hix)
                have I0 : (0 : Int) ≤ (i : Int) := by omega
                have I1 : (i : Int) < (tn : Int) := by omega
                have I2 : (i : Int) ≤ 64 := by have := HTL.out; omega
                have hil : i < T.toks.length := by rw [HTN.out]; exact hit
                obtain ⟨g1, o1, cc1, e1, _, _, m0⟩ := (HTV.out.below HBR.out).spot i hil
                rw [HTN.out] at e1
                cases e1
                have hut := List.getElem_mem hil
                have hsn : (T.toks.take (i + 1)).map (leT T g) = (T.toks.take i).map (leT T g) ++ [leT T g (T.toks[i]'hil)] := by rw [List.take_succ_eq_append_getElem hil, List.map_append]; rfl
                have hdl : ((T.toks.take i).map (leT T g)).length ≤ 64 := by
                  rw [List.length_map, List.length_take]
                  have := HTL.out
                  omega
                obtain ⟨u, hu⟩ : ∃ u, T.toks[i]'hil = u := ⟨_, rfl⟩
                rw [hu] at m0 hut hsn
                obtain ⟨⟨sa, sn, sc⟩, hgu, hsl, _⟩ := HW.out u hut
                replace hsl : sn = (T.want u).length := hsl
                have hgr : gotR T u = ((T.got u : Int), ((T.want u).length : Int)) := if_pos hut
                have hu18 : I64 u := (HOK.out.pos u hut).2
                have GG := Lib.hid (sGot (S5.out.kept HBR.out) u hu18)
                rw [hgr, decide_eq_true hut] at GG
                have HLK := Lib.hid fun w1 (hs : SideG tbObj w w1 (ptr18 pb) T [Bes.map mb m g, Bes.blk ba (.int .i64 kk) [.int .i64 t, .slice xa xn xc]]) => MapA.look1 (show MapA w1 mb m g from SideG.head hs) hu18
                simp only [hgu, Option.getD_some, ahv] at HLK
                have hle : leT T g u = ⟨u, 0, 0, 0, 0, (T.got u : Int), sa, sc, T.want u⟩ := by unfold leT; rw [hgu]; rfl
                rw [hle] at hsn
                rw [hsl] at HLK
                generalize (T.toks.take i).map (leT T g) = D at *
                generalize T.want u = wu at *
                generalize T.got u = gn at *
                have HSN := Lib.hid hsn
                have HDL := Lib.hid hdl
                have HSJ := Lib.hid (S5.out.kept HBR.out)
                clear hi hix hit hil hu hut hgu hsl hgr hu18 hle hsn hdl
                go_upto_region 22 with fail
                clear m0
                go_upto_region 23 with (go_at_call 12; (with_reducible refine GG.out.mono ?_); rintro e w9 ⟨rfl, hb⟩; have S9 := Lib.hid (HSJ.out.kept hb); have HB9 := Lib.hid (HBR.out.trans (hb.mono HBR.out.size)); have HO9 := Lib.hid (OwnR.kept HO.out hb); clear hb)
                have hlk := HLK.out _ S9.out
                go_wp2_with (at_builtin; refine appLe ⟨u, 0, 0, 0, 0, (gn : Int), sa, sc, wu⟩ HO9.out HB9.out.size (by have := HDL.out; omega) rfl _ _ rfl rfl rfl ?_; intro v6 w6 o6 b6; have HO6 := Lib.hid o6; have HB6 := Lib.hid (HB9.out.trans b6); clear o6 b6 hlk)
                go_roundg (tn - (i + 1))
                case measure => have := HIT.out; omega
                case rel => exact ⟨i + 1, by have := HIT.out; omega, Nat.le_refl _, by go_num, by rw [HSN.out]; exact HO6.out, HB6.out⟩
              · have I1 : ¬ (i : Int) < (tn : Int) := by omega
                have hdi : T.toks.take i = T.toks := List.take_of_length_le (by rw [HTN.out]; omega)
                have ho := HO.out
                rw [hdi] at ho
                have hl1 : ((T.toks.take i).map (leT T g)).length = tn := by rw [hdi, List.length_map, HTN.out]
                have hl2 : (T.toks.map (leT T g)).length = tn := by rw [List.length_map, HTN.out]
                rw [hl2] at ho
                rw [hl1]
                have SX := Lib.hid (S5.out.kept HBR.out)
                have hxs : LeasesAt wr (.slice aT tn cT) (T.toks.map (leT T g)) := ⟨OwnR.rows csLe_len ho, fun x hx => by
                  obtain ⟨t', ht', rfl⟩ := List.mem_map.1 hx
                  obtain ⟨⟨sa, sn, sc⟩, hg', hn', hi'⟩ := HW.out t' ht'
                  replace hn' : sn = (T.want t').length := hn'
                  replace hi' : IntsAt w (.slice sa sn sc) (T.want t') := hi'
                  rw [hn'] at hi'
                  show IntsAt wr (.slice ((g t').getD ah0).a (T.want t').length ((g t').getD ah0).c) (T.want t')
                  rw [hg']
                  exact hi'.below (SideG.below SX.out)⟩
                have HVW := Lib.hid fun w1 (hs : SideG tbObj w w1 (ptr18 pb) T [Bes.map mb m g, Bes.blk ba (.int .i64 kk) [.int .i64 t, .slice xa xn xc]]) => sView hs
                have KX := Lib.hid (show ∀ w', Below wr.heap.size wr w' → LeasesAt w' (.slice aT tn cT) (T.toks.map (leT T g)) from fun w' hb => ⟨RowsAt.kept hxs.rows hb, fun y hy => (hxs.each y hy).below hb⟩)
                have PR := Lib.hid (show ∀ w1 v Vs, Below wr.heap.size wr w1 → LocksAt w1 v Vs → Vs.map lkp = T.lks → Calls Tryz.prog 13 #[.slice aT tn cT, v] w1 fun e w2 => e = .returned (.bool true) ∧ Below w1.heap.size w1 w2 from fun w1 v Vs hb hv hm => by
                  have hf := leT_fit (g := g) hm
                  obtain ⟨⟨q1, q2⟩, q3, q4, q5, q6⟩ := hf.small HOK.out
                  have := pRight_any _ _ _ _ w1 (KX.out w1 hb) hv (by omega) (by omega) q3 q4 q5 q6
                  rwa [hf.right HOK.out] at this)
                have PG := Lib.hid (show ∀ w1 v Vs, Below wr.heap.size wr w1 → LocksAt w1 v Vs → Vs.map lkp = T.lks → Calls Tryz.prog 15 #[.slice aT tn cT, v] w1 fun e w2 => e = .returned (.bool false) ∧ Below w1.heap.size w1 w2 from fun w1 v Vs hb hv hm => by
                  have hf := leT_fit (g := g) hm
                  obtain ⟨⟨q1, q2⟩, q3, q4, q5, q6⟩ := hf.small HOK.out
                  have := pRing_any _ _ _ _ w1 (KX.out w1 hb) hv (by omega) (by omega) q3 q5 (fun x h => ⟨(q6 x h).1, (q6 x h).2.1⟩)
                  rwa [hf.ring HOK.out] at this)
                have PD := Lib.hid (show ∀ w1 v Vs, 0 < tn → Below wr.heap.size wr w1 → LocksAt w1 v Vs → Vs.map lkp = T.lks → Calls Tryz.prog 16 #[.slice aT tn cT, v] w1 fun e w2 => ∃ a n c, e = .returned (.slice a n c) ∧ ((n : Int) == 0) = false ∧ Below w1.heap.size w1 w2 from fun w1 v Vs h0 hb hv hm => by
                  have hf := leT_fit (g := g) hm
                  obtain ⟨⟨q1, q2⟩, q3, q4, q5, q6⟩ := hf.small HOK.out
                  refine (pReady_any _ _ _ _ w1 (KX.out w1 hb) hv (by omega) (by omega) q3 q4 (fun x h => (q5 x h).2) (fun x h => (q6 x h).1)).mono ?_
                  rintro e w2 ⟨v2, rfl, h1, h2⟩
                  obtain ⟨a, c, rfl⟩ := h1.form
                  have hne := hf.ready HOK.out (fun hn => by rw [hn] at hl2; simp at hl2; omega)
                  exact ⟨a, _, c, rfl, beq_noI (by have := List.length_pos_iff.2 hne; omega), h2⟩)
                have hb0 := Lib.hid (Below.refl wr.heap.size wr)
                clear hi hix hit hdi ho HO hl1 hl2 hxs KX S5 HTV HBR
                by_cases h0 : 0 < tn
                · have q0 : (0 : Int) < (tn : Int) := by omega
                  go_wp2_with (first
                    | (go_at_call 14; (with_reducible refine (HVW.out _ S4.out).mono ?_); rintro e w10 ⟨v5, V5, rfl, hv, hm, hb⟩; have L5 := Lib.hid hv; have M5 := Lib.hid hm; have S55 := Lib.hid (S4.out.kept hb); have B5 := Lib.hid (B4.out.trans (hb.mono B4.out.size)); clear hb hv hm)
                    | (go_at_call 14; (with_reducible refine (HVW.out _ S2.out).mono ?_); rintro e w8 ⟨v3, V3, rfl, hv, hm, hb⟩; have L3 := Lib.hid hv; have M3 := Lib.hid hm; have S3 := Lib.hid (S2.out.kept hb); have B3 := Lib.hid (B2.out.trans (hb.mono B2.out.size)); clear hb hv hm)
                    | (go_at_call 14; (with_reducible refine (HVW.out _ SX.out).mono ?_); rintro e w6 ⟨v1, V1, rfl, hv, hm, hb⟩; have L1 := Lib.hid hv; have M1 := Lib.hid hm; have S1 := Lib.hid (SX.out.kept hb); have B1 := Lib.hid (hb0.out.trans (hb.mono hb0.out.size)); clear hb hv hm)
                    | (go_at_call 13; (with_reducible refine (PR.out _ _ _ B1.out L1.out M1.out).mono ?_); rintro e w7 ⟨rfl, b⟩; have S2 := Lib.hid (S1.out.kept b); have B2 := Lib.hid (B1.out.trans (b.mono B1.out.size)); clear b)
                    | (go_at_call 15; (with_reducible refine (PG.out _ _ _ B3.out L3.out M3.out).mono ?_); rintro e w9 ⟨rfl, b⟩; have S4 := Lib.hid (S3.out.kept b); have B4 := Lib.hid (B3.out.trans (b.mono B3.out.size)); clear b)
                    | (go_at_call 16; (with_reducible refine (PD.out _ _ _ h0 B5.out L5.out M5.out).mono ?_); rintro e w11 ⟨ra, rn, rc, rfl, hrn, b⟩; have S66 := Lib.hid (S55.out.kept b); clear b))
                  have SY := Lib.hid (SideG.sub21 (bs' := [Bes.map mb m g]) S66.out (by simp))
                  go_roundg (l.length - (k + 1))
                  case measure => have := HLT.out; omega
                  case rel => exact ⟨k + 1, m, T, g, by have := HLT.out; omega, Nat.le_refl _, by go_num, HM.out, HW.out, SY.out⟩
                · have q0 : ¬ (0 : Int) < (tn : Int) := by omega
                  go_wp2_with (first
                    | (go_at_call 14; (with_reducible refine (HVW.out _ S2.out).mono ?_); rintro e w8 ⟨v3, V3, rfl, hv, hm, hb⟩; have L3 := Lib.hid hv; have M3 := Lib.hid hm; have S3 := Lib.hid (S2.out.kept hb); have B3 := Lib.hid (B2.out.trans (hb.mono B2.out.size)); clear hb hv hm)
                    | (go_at_call 14; (with_reducible refine (HVW.out _ SX.out).mono ?_); rintro e w6 ⟨v1, V1, rfl, hv, hm, hb⟩; have L1 := Lib.hid hv; have M1 := Lib.hid hm; have S1 := Lib.hid (SX.out.kept hb); have B1 := Lib.hid (hb0.out.trans (hb.mono hb0.out.size)); clear hb hv hm)
                    | (go_at_call 13; (with_reducible refine (PR.out _ _ _ B1.out L1.out M1.out).mono ?_); rintro e w7 ⟨rfl, b⟩; have S2 := Lib.hid (S1.out.kept b); have B2 := Lib.hid (B1.out.trans (b.mono B1.out.size)); clear b)
                    | (go_at_call 15; (with_reducible refine (PG.out _ _ _ B3.out L3.out M3.out).mono ?_); rintro e w9 ⟨rfl, b⟩; have S4 := Lib.hid (S3.out.kept b); have B4 := Lib.hid (B3.out.trans (b.mono B3.out.size)); clear b))
                  have SY := Lib.hid (SideG.sub21 (bs' := [Bes.map mb m g]) S4.out (by simp))
                  go_roundg (l.length - (k + 1))
                  case measure => have := HLT.out; omega
                  case rel => exact ⟨k + 1, m, T, g, by have := HLT.out; omega, Nat.le_refl _, by go_num, HM.out, HW.out, SY.out⟩
        · have g2 : ¬ (k : Int) < (l.length : Int) := by omega
          have HB := Lib.hid (SideG.below HS.out)
          clear HS HW
          go_wp2_with (go_at_call 6; (with_reducible refine (HAL.out _).mono ?_); rintro e w5 ⟨rfl, hb⟩; have HB2 := Lib.hid (HB.out.trans (hb.mono HB.out.size)); clear hb)
          go_ret
          exact ⟨rfl, HB2.out⟩
end Go.Proofs.YtjmgokjljmmmgaaGreat
/- Lists of lists of bytes that come in. -/
namespace Go.Proofs.YtjmgokjljmmmgaaGreat
open Go.RowKit Go.ChangeShapes Go.WideShapes Go.Joins Go.Deep

set_option maxRecDepth 100000 in
/-- a slice that lies in a cell -/
theorem open_rows_good {α : Type} [Inhabited α] {H : Type} {enc : TypeId × Value → H} {w : World} {t e : TypeId} {K n0 : Nat} {xs0 : List Value} {z : DataW H × List MemPlace} (cs : α → List Value) (good : α → Prop)
    (ht : Tryz.prog.underlying t = some (.slice e)) (ce : Tryz.prog.cellsOf e = K) (hK : 0 < K)
    (elem : ∀ n xs x, xs.length = K → DataW.trod enc Tryz.prog w 0 (fun _ => true) true n e xs = some x → ∃ y, xs = cs y ∧ good y)
    (hx0 : DataW.trod enc Tryz.prog w 0 (fun _ => true) true n0 t xs0 = some z) :
    ∃ a len cap l, xs0 = [.slice a len cap] ∧ RowsAt w K cs (.slice a len cap) l ∧ l.length ≤ 9223372036854775807 ∧ ∀ x ∈ l, good x := by
  obtain ⟨d, p⟩ := z
  rcases open_slice ht hx0 with ⟨hcs, _⟩ | ⟨x, ln, c, m, n, D, Pl, hcs, _, hl, hm, hmm, _, hx⟩
  · exact ⟨none, 0, 0, [], hcs, RowsAt.nil _ _ _, by simp, by simp⟩
  · have hmc : m = c := by simpa using hmm
    subst hmc
    rw [ce] at hx
    have each : ∀ i, i < m → ∃ y : α, (∀ j u, (cs y)[j]? = some u → w.cell? ((x.add (i * K)).add j) = some u) ∧ good y ∧ (cs y).length = K := by
      intro i hi
      obtain ⟨xs, h1, h2⟩ := hx i hi
      obtain ⟨_, hlen, hcell⟩ := World.cells?_some h1
      obtain ⟨y, rfl, hg⟩ := elem n xs _ hlen h2
      refine ⟨y, fun j u hu => ?_, hg, hlen⟩
      have := hcell j (by rw [← hlen]; exact (List.getElem?_eq_some_iff.1 hu).1)
      rw [this, hu]
    obtain ⟨q, hq⟩ := choose_lt each
    have hll : ((List.range ln).map q).length = ln := by simp
    refine ⟨some x, ln, m, (List.range ln).map q, hcs, ⟨some x, m, by rw [hll], by rw [hll]; exact hl, fun h0 => ?_⟩, ?_, fun y hy => ?_⟩
    · rw [hll] at h0
      obtain ⟨h1, _, h3⟩ := hq 0 (by omega)
      obtain ⟨u, hu⟩ : ∃ u, (cs (q 0))[0]? = some u := ⟨_, List.getElem?_eq_getElem (by omega)⟩
      have h4 := h1 0 u hu
      obtain ⟨b, off, spot⟩ := x
      have hspot : spot = none := by simpa [Addr.add] using World.cell?_spot h4
      subst hspot
      rw [add_plain, add_plain] at h4
      refine ⟨b, off, rfl, World.block_lt_of_cell? _ _ h4, fun j y hj i u hu => ?_⟩
      have hjl : j < ln := by rw [← hll]; exact (List.getElem?_eq_some_iff.1 hj).1
      have hyq : q j = y := by simpa [hjl] using hj
      rw [← hyq] at hu
      have := (hq j (by omega)).1 i u hu
      rw [add_plain, add_plain] at this
      exact this
    · rw [hll]
      unfold maxLen at hm
      omega
    · rw [List.mem_map] at hy
      obtain ⟨i, hi, rfl⟩ := hy
      exact (hq i (by have := List.mem_range.1 hi; omega)).2.1
theorem open_rows_in {α : Type} [Inhabited α] {H : Type} {enc : TypeId × Value → H} {w : World} {t e : TypeId} {K n0 : Nat} {xs0 : List Value} {z : DataW H × List MemPlace} (cs : α → List Value)
    (ht : Tryz.prog.underlying t = some (.slice e)) (ce : Tryz.prog.cellsOf e = K) (hK : 0 < K)
    (elem : ∀ n xs x, xs.length = K → DataW.trod enc Tryz.prog w 0 (fun _ => true) true n e xs = some x → ∃ y, xs = cs y)
    (hx0 : DataW.trod enc Tryz.prog w 0 (fun _ => true) true n0 t xs0 = some z) :
    ∃ a len cap l, xs0 = [.slice a len cap] ∧ RowsAt w K cs (.slice a len cap) l ∧ l.length ≤ 9223372036854775807 := by
  obtain ⟨a, len, cap, l, h1, h2, h3, _⟩ := open_rows_good cs (fun _ => True) ht ce hK (fun n xs x h h' => (elem n xs x h h').imp fun _ e => ⟨e, trivial⟩) hx0
  exact ⟨a, len, cap, l, h1, h2, h3⟩
end Go.Proofs.YtjmgokjljmmmgaaGreat
/- Acts of layer 20 that come in, opened. -/
namespace Go.Proofs.YtjmgokjljmmmgaaGreat
open Go.RowKit Go.ChangeShapes Go.WideShapes Go.Joins Go.Deep

theorem cells_act20 : Tryz.prog.cellsOf 33 = 3 := by kernel_rfl
theorem cells_int_a20 : Tryz.prog.cellsOf 3 = 1 := by kernel_rfl
theorem cells_ints_a20 : Tryz.prog.cellsOf 22 = 1 := by kernel_rfl
theorem list3_a20 {α : Type} {l : List α} (h : l.length = 3) : ∃ a b c, l = [a, b, c] := by
  match l, h with
  | [a, b, c], _ => exact ⟨a, b, c, rfl⟩
set_option maxRecDepth 100000 in
theorem trod_act20 {H : Type} {enc : TypeId × Value → H} {w : World} {fuel : Nat} {cs : List Value} {x : DataW H × List MemPlace} (hl : cs.length = 3) (h : DataW.trod enc Tryz.prog w 0 (fun _ => true) true fuel 33 cs = some x) : ∃ a : Ac, cs = csAc a ∧ IntsAt w a.v a.want ∧ -9223372036854775808 ≤ a.token ∧ a.token ≤ 9223372036854775807 := by
  obtain ⟨c0, c1, c2, rfl⟩ := list3_a20 hl
  obtain ⟨y0, y1, y2, k, _, _, h0, h1, h2⟩ := trod_struct3 Tryz.underlying33 h
  simp only [cells_int_a20, cells_ints_a20, List.drop_zero, List.take_succ_cons, List.take_zero, List.drop_succ_cons] at h0 h1 h2
  obtain ⟨a, e0, _, wa⟩ := DataW.trod_int Tryz.underlying3 h0
  obtain ⟨b, e1, _, wb⟩ := DataW.trod_int Tryz.underlying3 h1
  obtain ⟨s, len, cap, l, e2, hr, _⟩ := open_rows_in csI Tryz.underlying22 cells_int_a20 (by decide) (by
    intro n xs x _ hx
    obtain ⟨a, e0, _, wa⟩ := DataW.trod_int Tryz.underlying3 hx
    exact ⟨a, e0⟩) h2
  simp at e0 e1 e2
  subst e0 e1 e2
  obtain ⟨s', c', e3⟩ := RowsAt.form hr
  cases e3
  exact ⟨⟨a, b, s, cap, l⟩, rfl, RowsAt.ints hr, bounds_i64 wb⟩
set_option maxRecDepth 100000 in
theorem open_acts20 {H : Type} {enc : TypeId × Value → H} {w : World} {base : Nat} {v : Value} {d : DataW H} {p : List MemPlace} (hok : Value.okWide Tryz.prog w .any base 23 v) (h : DataW.Trod enc Tryz.prog w 0 (fun _ => true) true 23 v d p) :
    ∃ l, ActsAt w v l ∧ l.length ≤ 9223372036854775807 ∧ ∀ a ∈ l, In18 a.token := by
  obtain ⟨l, h1, h2, h3⟩ := open_rows csAc (fun a => IntsAt w a.v a.want ∧ -9223372036854775808 ≤ a.token ∧ a.token ≤ 9223372036854775807) Tryz.underlying23 cells_act20 (by decide) (fun _ _ _ hl h => trod_act20 hl h) hok h
  exact ⟨l, ⟨h1, fun a ha => (h3 a ha).1⟩, h2, fun a ha => (h3 a ha).2⟩
end Go.Proofs.YtjmgokjljmmmgaaGreat
/- Stage 21: what the proof of WaitsTables leans on. -/
namespace Go.Proofs.YtjmgokjljmmmgaaGreat
end Go.Proofs.YtjmgokjljmmmgaaGreat
