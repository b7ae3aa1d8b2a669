/- Texts of this proof, joined: AisLawG; OpenBss; OpenAct20; AisGoesAll. -/
import Derived.Test.YtieopbeimcmheaaBun16
import Derived.Deep.DeepCutAuto
import Derived.Lib.SmallJoins
import Derived.ChangeArms
import Derived.Deep.Strs
/- Stage 20: the law AislesGoes. -/
namespace Go.Proofs.Ytieopbeimcmheaa
open Go.RowKit

theorem few_all20 {l : List Ac} {m : Int} (h : fewB l m = true) : (l.length : Int) ≤ m ∧ ∀ x ∈ l, x.want.length ≤ 40 := by
  unfold fewB at h
  simp only [Bool.and_eq_true, decide_eq_true_eq, List.all_eq_true] at h
  exact h
theorem SideG.sub21 {w w1 : World} {p : Value} {T : Tb} {bs bs' : List Bes} (h : SideG tbObj w w1 p T bs) (hs : ∀ b ∈ bs', b ∈ bs) : SideG tbObj w w1 p T bs' := by
  obtain ⟨F, h0, h1, h2, h3⟩ := h
  exact ⟨F, h0, h1, fun b hb => h2 b (hs b hb), h3⟩
set_option maxHeartbeats 4000000 in
set_option maxRecDepth 100000 in
theorem refMayN_any (va : Value) (l : List Int) (W : World) (ha : IntsAt W va l) :
    Calls Try.prog 19 #[va] W fun e w' => e = .returned (.bool (mayB l)) ∧ Below W.heap.size W w' := by
  by_cases h : l.length ≤ 1000
  · exact refMay20_any va l W ha h
  · have hm : mayB l = false := by
      unfold mayB
      rw [decide_eq_false (by omega), Bool.false_and]
    rw [hm]
    obtain ⟨a, c, rfl⟩ := ha.form
    have k1 : (32 : Int) < (l.length : Int) := by omega
    have hB := Below.refl W.heap.size W
    clear h hm ha
    go_enter Try.func19, Try.ntmps19
    go_wp2
    go_ret
    exact ⟨rfl, hB⟩

set_option maxHeartbeats 32000000 in
set_option maxRecDepth 100000 in
theorem aislesGoes_any (va vl : Value) (ids : List Int) (l : List Ac) (w : World) (ha : IntsAt w va ids) (hl : ActsAt w vl l) (hg : ∀ a ∈ l, In18 a.token) :
    Calls Try.prog 5 #[va, vl] w fun e w' => e = .returned (.bool true) ∧ Below w.heap.size w w' := by
  have HAL := Lib.hid fun w => alive20_any w
  have HFW := Lib.hid fun w1 (hb : Below w.heap.size w w1) => refFew20_any vl l 60 w1 (RowsAt.kept hl.rows hb) (by omega)
  have HMY := Lib.hid (refMayN_any va ids w ha)
  have HA := Lib.hid ha
  have HL := Lib.hid hl
  have HG := Lib.hid hg
  obtain ⟨a1, c1, rfl⟩ := ha.form
  obtain ⟨a2, c2, rfl⟩ := RowsAt.form hl.rows
  clear ha hl hg
  cases hmb : mayB ids with
  | false =>
    rw [hmb] at HMY
    go_enter Try.func5, Try.ntmps5
    go_wp2_with (first
      | (go_at_call 19; (with_reducible refine HMY.out.mono ?_); rintro e w1 ⟨rfl, hb1⟩)
      | (go_at_call 7; (with_reducible refine (HAL.out _).mono ?_); rintro e w5 ⟨rfl, hb⟩))
    go_ret
    exact ⟨rfl, hb1.trans (hb.mono hb1.size)⟩
  | true =>
    rw [hmb] at HMY
    cases hfw : fewB l 60 with
    | false =>
      rw [hfw] at HFW
      go_enter Try.func5, Try.ntmps5
      go_wp2_with (first
        | (go_at_call 19; (with_reducible refine HMY.out.mono ?_); rintro e w1 ⟨rfl, hb1⟩; have HB1 := Lib.hid hb1; clear hb1)
        | (go_at_call 6; (with_reducible refine (HFW.out _ HB1.out).mono ?_); rintro e w2 ⟨rfl, hb2⟩; have HB2 := Lib.hid (HB1.out.trans (hb2.mono HB1.out.size)); clear hb2)
        | (go_at_call 7; (with_reducible refine (HAL.out _).mono ?_); rintro e w5 ⟨rfl, hb⟩))
      go_ret
      exact ⟨rfl, HB2.out.trans (hb.mono HB2.out.size)⟩
    | true =>
      rw [hfw] at HFW
      have HFE := Lib.hid (few_all20 hfw)
      have HN := Lib.hid fun w1 (hb : Below w.heap.size w w1) => sNew (w := w) hb _ ids (HA.out.below hb) hmb
      clear hmb hfw
      go_enter Try.func5, Try.ntmps5
      go_wp2_with (first
        | (go_at_call 19; (with_reducible refine HMY.out.mono ?_); rintro e w1 ⟨rfl, hb1⟩; have HB1 := Lib.hid hb1; clear hb1)
        | (go_at_call 6; (with_reducible refine (HFW.out _ HB1.out).mono ?_); rintro e w2 ⟨rfl, hb2⟩; have HB2 := Lib.hid (HB1.out.trans (hb2.mono HB1.out.size)); clear hb2)
        | (go_at_call 8; (with_reducible refine (HN.out _ HB2.out).mono ?_); rintro e w3 ⟨pb, rfl, hs⟩; have S0 := Lib.hid hs; clear hs))
      go_loopg [7, 40] l.length (fun kx s7 kv wr => ∃ (k m : Nat) (T : Tb), k ≤ l.length ∧ l.length - k ≤ kx ∧ s7 = .int .i64 m ∧ kv = .int .i64 k ∧ Hid (T.todo + 1 ≤ m ∧ m ≤ 1 + 41 * k) ∧ Hid (SideG tbObj w wr (ptr18 pb) T []))
      case atStart => exact ⟨0, 1, Tb.new ids, Nat.zero_le _, Nat.le_refl _, rfl, rfl, ⟨Nat.le_refl _, Nat.le_refl _⟩, S0.out⟩
      case round =>
        clear S0
        obtain ⟨k, m, T, hk, hkx, rfl, rfl, HM, HS⟩ := hrel
        by_cases hlt : k < l.length
        · have HLT := Lib.hid hlt
          have K0 : (0 : Int) ≤ (k : Int) := by omega
          have K1 : (k : Int) < (l.length : Int) := by omega
          have K2 : (k : Int) ≤ 60 := by have := HFE.out.1; omega
          have M2 : (m : Int) ≤ 2461 := by have := HM.out.2; omega
          have M0 : (0 : Int) ≤ (m : Int) := by omega
          have HWL := Lib.hid (HFE.out.2 _ (List.getElem_mem hlt))
          have HWI := Lib.hid (HL.out.each _ (List.getElem_mem hlt))
          obtain ⟨g, o, _, e, _, _, p0, p1, p2⟩ := RowsAt.atA (RowsAt.kept HL.out.rows (SideG.below HS.out)) k hlt
          cases e
          have hy := HG.out _ (List.getElem_mem hlt)
          obtain ⟨⟨kk, t, xa, xc, xw⟩, har⟩ : ∃ r, l[k]'hlt = r := ⟨_, rfl⟩
          rw [har] at p0 p1 p2 hy HWL HWI
          simp only at p0 p1 p2 hy HWL HWI
          have HY := Lib.hid hy
          obtain ⟨xn, hxn⟩ : ∃ n, xw.length = n := ⟨_, rfl⟩
          replace HWI : Hid (IntsAt w (.slice xa xw.length xc) xw) := HWI
          change _ = some (Value.slice xa xw.length xc) at p2
          rw [hxn] at p2 HWI HWL
          have X2 : (xn : Int) ≤ 40 := by have := HWL.out; omega
          have X0 : (0 : Int) ≤ (xn : Int) := by omega
          have SB := Lib.hid (SideG.new HS.out (.int .i64 kk) [.int .i64 t, .slice xa xn xc] 37)
          have HXN := Lib.hid hxn
          clear hy har hk hxn
          by_cases f1 : kk = 1
          · subst f1
            have P := Lib.hid (sEnter SB.out t HY.out (.slice xa xn xc) xw (HWI.out.below (SideG.below SB.out)) (by have := HWL.out; have := HXN.out; omega))
            by_cases he : T.enterE t xw = 0
            · have HTD := Lib.hid (enter_todo he)
              rw [he] at P
              obtain ⟨T2, hT2⟩ : ∃ T2, T.enter t xw = T2 := ⟨_, rfl⟩
              rw [hT2] at P HTD
              rw [HXN.out] at HTD
              clear he hT2
              go_wp2_with (go_at_call 10; (with_reducible refine P.out.mono ?_); rintro e w3 ⟨rfl, hs⟩; have SS := Lib.hid hs; have r1 := Blk.cell (vs := [.int .i64 1, .int .i64 t, .slice xa xn xc]) (SideG.head SS.out) 2 rfl; clear hs)
              go_roundg (l.length - (k + 1))
              case measure => have := HLT.out; omega
              case rel => exact ⟨k + 1, m + (xn + 1), T2, by have := HLT.out; omega, Nat.le_refl _, by go_num, by go_num, (by have := HM.out; have := HTD.out; have := HWL.out; constructor <;> omega), SideG.sub21 SS.out (by simp)⟩
            · have hb : (T.enterE t xw == 0) = false := by simpa using he
              have HST := Lib.hid (enter_stay he)
              rw [HST.out] at P
              generalize T.enterE t xw = er at *
              clear he HST
              go_wp2_with (go_at_call 10; (with_reducible refine P.out.mono ?_); rintro e w3 ⟨rfl, hs⟩; have SS := Lib.hid hs; have r1 := Blk.cell (vs := [.int .i64 1, .int .i64 t, .slice xa xn xc]) (SideG.head SS.out) 0 rfl; clear hs)
              go_roundg (l.length - (k + 1))
              case measure => have := HLT.out; omega
              case rel => exact ⟨k + 1, m, T, by have := HLT.out; omega, Nat.le_refl _, rfl, by go_num, (by have := HM.out; constructor <;> omega), SideG.sub21 SS.out (by simp)⟩
          · have f1b : (kk == 1) = false := beq_noI f1
            by_cases f3 : kk = 3
            · subst f3
              clear f1 f1b
              have P := Lib.hid (sScan SB.out)
              have HTD := Lib.hid (scan_todo (SideG.ok HS.out))
              generalize T.scan = R at *
              obtain ⟨T2, D⟩ := R
              simp only at P HTD
              go_wp2_with (go_at_call 14; (with_reducible refine P.out.mono ?_); rintro e w3 ⟨vg, rfl, _, _, hs⟩; have SS := Lib.hid hs; clear hs)
              go_roundg (l.length - (k + 1))
              case measure => have := HLT.out; omega
              case rel => exact ⟨k + 1, m, T2, by have := HLT.out; omega, Nat.le_refl _, rfl, by go_num, (by have := HM.out; have := HTD.out; constructor <;> omega), SideG.sub21 SS.out (by simp)⟩
            · have f3b : (kk == 3) = false := beq_noI f3
              go_wp2
              go_roundg (l.length - (k + 1))
              case measure => have := HLT.out; omega
              case rel => exact ⟨k + 1, m, T, by have := HLT.out; omega, Nat.le_refl _, rfl, by go_num, (by have := HM.out; constructor <;> omega), SideG.sub21 SB.out (by simp)⟩
        · have g2 : ¬ (k : Int) < (l.length : Int) := by omega
          have HMM := Lib.hid (show T.todo + 1 ≤ m ∧ m ≤ 2461 from ⟨HM.out.1, by have := HM.out.2; have := HFE.out.1; omega⟩)
          clear HM
          go_wp2
          have M2 : (m : Int) ≤ 2461 := by have := HMM.out.2; omega
          go_loopg [10] T.todo (fun kx nv ws => ∃ (nn : Nat) (T2 : Tb), T2.todo ≤ kx ∧ nv = .int .i64 nn ∧ Hid (nn + T2.todo + 1 ≤ m) ∧ Hid (SideG tbObj w ws (ptr18 pb) T2 []))
          case atStart => exact ⟨0, T, Nat.le_refl _, rfl, (by have := HMM.out.1; show _ ≤ _; omega), HS.out⟩
          case round =>
            clear HS
            obtain ⟨nn, T, hkx, rfl, HNN, HS⟩ := hrel
            have HKX := Lib.hid hkx
            have N0 : (0 : Int) ≤ (nn : Int) := by omega
            have N2 : (nn : Int) ≤ 2461 := by have := HNN.out; have := HMM.out.2; omega
            have NM : ¬ (m : Int) < (nn : Int) := by have := HNN.out; omega
            have HTK := Lib.hid (sTokens HS.out)
            obtain ⟨tn, htn⟩ : ∃ tn, T.toks.length = tn := ⟨_, rfl⟩
            have HTN := Lib.hid htn
            clear hkx
            by_cases h0 : tn = 0
            · have Z0 : ¬ (0 : Int) < (tn : Int) := by omega
              clear h0 htn
              go_wp2_with (first
                | (go_at_call 20; (with_reducible refine HTK.out.mono ?_); rintro e w5 ⟨tv, rfl, hv, hb⟩; obtain ⟨ta, tc, hvf⟩ := hv.form; rw [HTN.out] at hvf; subst hvf; have HB5 := Lib.hid ((SideG.below HS.out).trans (hb.mono (SideG.below HS.out).size)); clear hb hv)
                | (go_at_call 16; (with_reducible refine (tGot_nil _ _).mono ?_); rintro e w6 ⟨rfl, hb⟩; have HB6 := Lib.hid (HB5.out.trans (hb.mono HB5.out.size)); clear hb)
                | (go_at_call 10; (with_reducible refine (tEnter_nil _ _ _).mono ?_); rintro e w7 ⟨rfl, hb⟩; have HB7 := Lib.hid (HB6.out.trans (hb.mono HB6.out.size)); clear hb)
                | (go_at_call 12; (with_reducible refine (tLeave_nil _ _).mono ?_); rintro e w8 ⟨rfl, hb⟩; have HB8 := Lib.hid (HB7.out.trans (hb.mono HB7.out.size)); clear hb)
                | (go_at_call 14; (with_reducible refine (tScan_nil _).mono ?_); rintro e w9 ⟨rfl, hb⟩; have HB9 := Lib.hid (HB8.out.trans (hb.mono HB8.out.size)); clear hb)
                | (go_at_call 21; (with_reducible refine (tView_nil _).mono ?_); rintro e w10 ⟨rfl, hb⟩; have HB10 := Lib.hid (HB9.out.trans (hb.mono HB9.out.size)); clear hb)
                | (go_at_call 20; (with_reducible refine (tTokens_nil _).mono ?_); rintro e w11 ⟨tv, rfl, hv, hb⟩; obtain ⟨ta2, tc2, hvf⟩ := hv.form; rw [show ([] : List Int).length = 0 from rfl] at hvf; subst hvf; have HB11 := Lib.hid (HB10.out.trans (hb.mono HB10.out.size)); clear hb hv)
                | (go_at_call 7; (with_reducible refine (HAL.out _).mono ?_); rintro e w12 ⟨rfl, hb⟩; have HB12 := Lib.hid (HB11.out.trans (hb.mono HB11.out.size)); clear hb))
              go_ret
              exact ⟨rfl, HB12.out⟩
            · have Z0 : (0 : Int) < (tn : Int) := by omega
              have hne : T.toks ≠ [] := fun e => h0 (by rw [← htn, e]; rfl)
              have hok := SideG.ok HS.out
              have HDT := Lib.hid (scan_todo hok)
              have HFG := Lib.hid (fun h : T.fullL = [] => scan_goes hok hne h)
              have HFS := Lib.hid (show (∀ x ∈ T.fullL, x ∈ T.scan.1.toks) ∧ T.fullL.Nodup from ⟨fun x hx => by rw [scan_toks]; exact full_sub hx, full_nodup hok⟩)
              have HFU := Lib.hid fun w1 (hs : SideG tbObj w w1 (ptr18 pb) T []) => sFullN hs
              have HSC := Lib.hid fun w1 (bs : List Bes) (hs : SideG tbObj w w1 (ptr18 pb) T bs) => sScan hs
              have hf64 : T.fullL.length ≤ 64 := Nat.le_trans (List.length_filter_le _ _) hok.few
              obtain ⟨FL, hFL⟩ : ∃ FL, T.fullL = FL := ⟨_, rfl⟩
              obtain ⟨⟨T2, D⟩, hR⟩ : ∃ R, T.scan = R := ⟨_, rfl⟩
              rw [hFL] at HFG HFS HFU hf64
              rw [hR] at HDT HFG HFS HSC
              simp only at HDT HFG HFS HSC
              obtain ⟨fn, hfn⟩ : ∃ fn, FL.length = fn := ⟨_, rfl⟩
              obtain ⟨dn, hdn⟩ : ∃ dn, D.length = dn := ⟨_, rfl⟩
              rw [hfn] at hf64
              have HF64 := Lib.hid hf64
              have HFN := Lib.hid hfn
              have HDN := Lib.hid hdn
              have hfd : dn = 0 → fn ≠ 0 := fun h1 h2 => HFG.out (List.eq_nil_of_length_eq_zero (by omega)) (List.eq_nil_of_length_eq_zero (by omega))
              have HFD := Lib.hid hfd
              clear h0 htn hne hok hFL hR hfn hdn HFG hf64
              by_cases hd0 : dn = 0
              · have hf0 := hfd hd0
                have D0 : ((dn : Int) == 0) = true := by subst hd0; rfl
                have F0 : ((fn : Int) == 0) = false := beq_noI (by omega)
                clear hd0 hfd hf0
                go_wp2_with (first
                  | (go_at_call 20; (with_reducible refine HTK.out.mono ?_); rintro e w5 ⟨tv, rfl, hv, hb⟩; obtain ⟨ta, tc, hvf⟩ := hv.form; rw [HTN.out] at hvf; subst hvf; have S5 := Lib.hid (HS.out.kept hb); clear hb hv)
                  | (go_at_call 23; (with_reducible refine (HFU.out _ S5.out).mono ?_); rintro e w6 ⟨fv, rfl, hv, hn, hb⟩; obtain ⟨fa, fc, hvf⟩ := hv.form; rw [HFN.out] at hvf; subst hvf; have S6 := Lib.hid (SideG.add S5.out hb (Bes.rows 1 csI (.slice fa fn fc) FL) (IntsAt.rows hv) (fun k hk => hn k hk.2)); clear hb hv hn)
                  | (go_at_call 14; (with_reducible refine (HSC.out _ _ S6.out).mono ?_); rintro e w7 ⟨gv, rfl, hv, _, hs⟩; obtain ⟨ga, gc, hvf⟩ := RowsAt.form hv; rw [HDN.out] at hvf; subst hvf; have S7 := Lib.hid hs; clear hs hv))
                clear HTK HFU HSC HS S5 S6
                go_loopg [90] fn (fun kx iv ws => ∃ (i : Nat) (T3 : Tb), i ≤ fn ∧ fn - i ≤ kx ∧ iv = .int .i64 i ∧ Hid ((∀ x ∈ FL.drop i, x ∈ T3.toks) ∧ T3.todo + i ≤ T2.todo) ∧ Hid (SideG tbObj w ws (ptr18 pb) T3 [Bes.rows 1 csI (.slice fa fn fc) FL]))
                case atStart => exact ⟨0, T2, Nat.zero_le _, Nat.le_refl _, rfl, ⟨fun x hx => HFS.out.1 x (by simpa using hx), Nat.le_refl _⟩, S7.out⟩
                case round =>
                  clear S7
                  obtain ⟨i, T3, hi, hix, rfl, HI, HS3⟩ := hrel
                  by_cases hit : i < fn
                  · have hil : i < FL.length := by rw [HFN.out]; exact hit
                    obtain ⟨g, o, cc, e1, _, _, xg⟩ := (show RowsAt _ 1 csI _ _ from SideG.head HS3.out).spot i hil
                    rw [HFN.out] at e1
                    cases e1
                    obtain ⟨x, hx⟩ : ∃ x, FL[i]'hil = x := ⟨_, rfl⟩
                    have m0 := xg 0 (.int .i64 x) (by rw [hx]; rfl)
                    simp only [Nat.add_zero, Nat.mul_one] at m0
                    have hdr : FL.drop i = x :: FL.drop (i + 1) := by rw [List.drop_eq_getElem_cons hil, hx]
                    have hxt : x ∈ T3.toks := HI.out.1 x (by rw [hdr]; simp)
                    have hnd : x ∉ FL.drop (i + 1) := by
                      have h9 := HFS.out.2.sublist (List.drop_sublist i FL)
                      rw [hdr] at h9
                      exact (List.nodup_cons.1 h9).1
                    have hin := ((SideG.ok HS3.out).pos x hxt).2
                    have P := Lib.hid (sLeave HS3.out x hin)
                    rw [decide_eq_true hxt] at P
                    have HI4 := Lib.hid (show (∀ y ∈ FL.drop (i + 1), y ∈ (T3.leave x).toks) ∧ (T3.leave x).todo + (i + 1) ≤ T2.todo from ⟨fun y hy => leave_toks (HI.out.1 y (by rw [hdr]; simp [hy])) fun e => hnd (e ▸ hy), by have := leave_todo hxt; have := HI.out.2; omega⟩)
                    generalize T3.leave x = T4 at *
                    have I0 : (0 : Int) ≤ (i : Int) := by omega
                    have I1 : (i : Int) < (fn : Int) := by omega
                    have I2 : (i : Int) ≤ 64 := by have := HF64.out; omega
                    have HIT := Lib.hid (And.intro hit hix)
                    clear xg hx hdr hxt hnd hin hit hix hi hil
                    go_wp2_with (go_at_call 12; (with_reducible refine P.out.mono ?_); rintro e w9 ⟨rfl, hs⟩; have S9 := Lib.hid hs; clear hs)
                    go_roundg (fn - (i + 1))
                    case measure => have := HIT.out; omega
                    case rel => exact ⟨i + 1, T4, by have := HIT.out; omega, Nat.le_refl _, by go_num, HI4.out, S9.out⟩
                  · have I1 : ¬ (i : Int) < (fn : Int) := by omega
                    have HT3 := Lib.hid (show T3.todo + 1 ≤ T.todo by have h1 := HI.out.2; have h2 := HDT.out; have h3 := HFD.out; have h4 := HDN.out; omega)
                    clear hit hix hi
                    go_wp2
                    go_roundg T3.todo
                    case measure => have := HT3.out; have := HKX.out; omega
                    case rel => exact ⟨nn + 1, T3, Nat.le_refl _, by go_num, (by have := HT3.out; have := HNN.out; show _ ≤ _; omega), SideG.sub21 HS3.out (by simp)⟩
              · have D0 : ((dn : Int) == 0) = false := beq_noI (by omega)
                clear hd0 hfd
                go_wp2_with (first
                  | (go_at_call 20; (with_reducible refine HTK.out.mono ?_); rintro e w5 ⟨tv, rfl, hv, hb⟩; obtain ⟨ta, tc, hvf⟩ := hv.form; rw [HTN.out] at hvf; subst hvf; have S5 := Lib.hid (HS.out.kept hb); clear hb hv)
                  | (go_at_call 23; (with_reducible refine (HFU.out _ S5.out).mono ?_); rintro e w6 ⟨fv, rfl, hv, hn, hb⟩; obtain ⟨fa, fc, hvf⟩ := hv.form; rw [HFN.out] at hvf; subst hvf; have S6 := Lib.hid (SideG.add S5.out hb (Bes.rows 1 csI (.slice fa fn fc) FL) (IntsAt.rows hv) (fun k hk => hn k hk.2)); clear hb hv hn)
                  | (go_at_call 14; (with_reducible refine (HSC.out _ _ S6.out).mono ?_); rintro e w7 ⟨gv, rfl, hv, _, hs⟩; obtain ⟨ga, gc, hvf⟩ := RowsAt.form hv; rw [HDN.out] at hvf; subst hvf; have S7 := Lib.hid hs; clear hs hv))
                clear HTK HFU HSC HS S5 S6
                go_loopg [90] fn (fun kx iv ws => ∃ (i : Nat) (T3 : Tb), i ≤ fn ∧ fn - i ≤ kx ∧ iv = .int .i64 i ∧ Hid ((∀ x ∈ FL.drop i, x ∈ T3.toks) ∧ T3.todo + i ≤ T2.todo) ∧ Hid (SideG tbObj w ws (ptr18 pb) T3 [Bes.rows 1 csI (.slice fa fn fc) FL]))
                case atStart => exact ⟨0, T2, Nat.zero_le _, Nat.le_refl _, rfl, ⟨fun x hx => HFS.out.1 x (by simpa using hx), Nat.le_refl _⟩, S7.out⟩
                case round =>
                  clear S7
                  obtain ⟨i, T3, hi, hix, rfl, HI, HS3⟩ := hrel
                  by_cases hit : i < fn
                  · have hil : i < FL.length := by rw [HFN.out]; exact hit
                    obtain ⟨g, o, cc, e1, _, _, xg⟩ := (show RowsAt _ 1 csI _ _ from SideG.head HS3.out).spot i hil
                    rw [HFN.out] at e1
                    cases e1
                    obtain ⟨x, hx⟩ : ∃ x, FL[i]'hil = x := ⟨_, rfl⟩
                    have m0 := xg 0 (.int .i64 x) (by rw [hx]; rfl)
                    simp only [Nat.add_zero, Nat.mul_one] at m0
                    have hdr : FL.drop i = x :: FL.drop (i + 1) := by rw [List.drop_eq_getElem_cons hil, hx]
                    have hxt : x ∈ T3.toks := HI.out.1 x (by rw [hdr]; simp)
                    have hnd : x ∉ FL.drop (i + 1) := by
                      have h9 := HFS.out.2.sublist (List.drop_sublist i FL)
                      rw [hdr] at h9
                      exact (List.nodup_cons.1 h9).1
                    have hin := ((SideG.ok HS3.out).pos x hxt).2
                    have P := Lib.hid (sLeave HS3.out x hin)
                    rw [decide_eq_true hxt] at P
                    have HI4 := Lib.hid (show (∀ y ∈ FL.drop (i + 1), y ∈ (T3.leave x).toks) ∧ (T3.leave x).todo + (i + 1) ≤ T2.todo from ⟨fun y hy => leave_toks (HI.out.1 y (by rw [hdr]; simp [hy])) fun e => hnd (e ▸ hy), by have := leave_todo hxt; have := HI.out.2; omega⟩)
                    generalize T3.leave x = T4 at *
                    have I0 : (0 : Int) ≤ (i : Int) := by omega
                    have I1 : (i : Int) < (fn : Int) := by omega
                    have I2 : (i : Int) ≤ 64 := by have := HF64.out; omega
                    have HIT := Lib.hid (And.intro hit hix)
                    clear xg hx hdr hxt hnd hin hit hix hi hil
                    go_wp2_with (go_at_call 12; (with_reducible refine P.out.mono ?_); rintro e w9 ⟨rfl, hs⟩; have S9 := Lib.hid hs; clear hs)
                    go_roundg (fn - (i + 1))
                    case measure => have := HIT.out; omega
                    case rel => exact ⟨i + 1, T4, by have := HIT.out; omega, Nat.le_refl _, by go_num, HI4.out, S9.out⟩
                  · have I1 : ¬ (i : Int) < (fn : Int) := by omega
                    have HT3 := Lib.hid (show T3.todo + 1 ≤ T.todo by have h1 := HI.out.2; have h2 := HDT.out; have h3 := HFD.out; have h4 := HDN.out; omega)
                    clear hit hix hi
                    go_wp2
                    go_roundg T3.todo
                    case measure => have := HT3.out; have := HKX.out; omega
                    case rel => exact ⟨nn + 1, T3, Nat.le_refl _, by go_num, (by have := HT3.out; have := HNN.out; show _ ≤ _; omega), SideG.sub21 HS3.out (by simp)⟩
end Go.Proofs.Ytieopbeimcmheaa
/- Lists of lists of bytes that come in. -/
namespace Go.Proofs.Ytieopbeimcmheaa
open Go.RowKit Go.ChangeShapes Go.WideShapes Go.Joins Go.Deep

set_option maxRecDepth 100000 in
/-- a slice that lies in a cell -/
theorem open_rows_in {α : Type} [Inhabited α] {H : Type} {enc : TypeId × Value → H} {w : World} {t e : TypeId} {K n0 : Nat} {xs0 : List Value} {z : DataW H × List MemPlace} (cs : α → List Value)
    (ht : Try.prog.underlying t = some (.slice e)) (ce : Try.prog.cellsOf e = K) (hK : 0 < K)
    (elem : ∀ n xs x, xs.length = K → DataW.trod enc Try.prog w 0 (fun _ => true) true n e xs = some x → ∃ y, xs = cs y)
    (hx0 : DataW.trod enc Try.prog w 0 (fun _ => true) true n0 t xs0 = some z) :
    ∃ a len cap l, xs0 = [.slice a len cap] ∧ RowsAt w K cs (.slice a len cap) l ∧ l.length ≤ 9223372036854775807 := by
  obtain ⟨d, p⟩ := z
  rcases open_slice ht hx0 with ⟨hcs, _⟩ | ⟨x, ln, c, m, n, D, Pl, hcs, _, hl, hm, hmm, _, hx⟩
  · exact ⟨none, 0, 0, [], hcs, RowsAt.nil _ _ _, by simp⟩
  · have hmc : m = c := by simpa using hmm
    subst hmc
    rw [ce] at hx
    have each : ∀ i, i < m → ∃ y : α, (∀ j u, (cs y)[j]? = some u → w.cell? ((x.add (i * K)).add j) = some u) ∧ (cs y).length = K := by
      intro i hi
      obtain ⟨xs, h1, h2⟩ := hx i hi
      obtain ⟨_, hlen, hcell⟩ := World.cells?_some h1
      obtain ⟨y, rfl⟩ := elem n xs _ hlen h2
      refine ⟨y, fun j u hu => ?_, hlen⟩
      have := hcell j (by rw [← hlen]; exact (List.getElem?_eq_some_iff.1 hu).1)
      rw [this, hu]
    obtain ⟨q, hq⟩ := choose_lt each
    have hll : ((List.range ln).map q).length = ln := by simp
    refine ⟨some x, ln, m, (List.range ln).map q, hcs, ⟨some x, m, by rw [hll], by rw [hll]; exact hl, fun h0 => ?_⟩, ?_⟩
    · rw [hll] at h0
      obtain ⟨h1, h3⟩ := hq 0 (by omega)
      obtain ⟨u, hu⟩ : ∃ u, (cs (q 0))[0]? = some u := ⟨_, List.getElem?_eq_getElem (by omega)⟩
      have h4 := h1 0 u hu
      obtain ⟨b, off, spot⟩ := x
      have hspot : spot = none := by simpa [Addr.add] using World.cell?_spot h4
      subst hspot
      rw [add_plain, add_plain] at h4
      refine ⟨b, off, rfl, World.block_lt_of_cell? _ _ h4, fun j y hj i u hu => ?_⟩
      have hjl : j < ln := by rw [← hll]; exact (List.getElem?_eq_some_iff.1 hj).1
      have hyq : q j = y := by simpa [hjl] using hj
      rw [← hyq] at hu
      have := (hq j (by omega)).1 i u hu
      rw [add_plain, add_plain] at this
      exact this
    · rw [hll]
      unfold maxLen at hm
      omega
end Go.Proofs.Ytieopbeimcmheaa
/- Acts of layer 20 that come in, opened. -/
namespace Go.Proofs.Ytieopbeimcmheaa
open Go.RowKit Go.ChangeShapes Go.WideShapes Go.Joins Go.Deep

theorem cells_act20 : Try.prog.cellsOf 37 = 3 := by kernel_rfl
theorem cells_int_a20 : Try.prog.cellsOf 3 = 1 := by kernel_rfl
theorem cells_ints_a20 : Try.prog.cellsOf 22 = 1 := by kernel_rfl
theorem list3_a20 {α : Type} {l : List α} (h : l.length = 3) : ∃ a b c, l = [a, b, c] := by
  match l, h with
  | [a, b, c], _ => exact ⟨a, b, c, rfl⟩
set_option maxRecDepth 100000 in
theorem trod_act20 {H : Type} {enc : TypeId × Value → H} {w : World} {fuel : Nat} {cs : List Value} {x : DataW H × List MemPlace} (hl : cs.length = 3) (h : DataW.trod enc Try.prog w 0 (fun _ => true) true fuel 37 cs = some x) : ∃ a : Ac, cs = csAc a ∧ IntsAt w a.v a.want ∧ -9223372036854775808 ≤ a.token ∧ a.token ≤ 9223372036854775807 := by
  obtain ⟨c0, c1, c2, rfl⟩ := list3_a20 hl
  obtain ⟨y0, y1, y2, k, _, _, h0, h1, h2⟩ := trod_struct3 Try.underlying37 h
  simp only [cells_int_a20, cells_ints_a20, List.drop_zero, List.take_succ_cons, List.take_zero, List.drop_succ_cons] at h0 h1 h2
  obtain ⟨a, e0, _, wa⟩ := DataW.trod_int Try.underlying3 h0
  obtain ⟨b, e1, _, wb⟩ := DataW.trod_int Try.underlying3 h1
  obtain ⟨s, len, cap, l, e2, hr, _⟩ := open_rows_in csI Try.underlying22 cells_int_a20 (by decide) (by
    intro n xs x _ hx
    obtain ⟨a, e0, _, wa⟩ := DataW.trod_int Try.underlying3 hx
    exact ⟨a, e0⟩) h2
  simp at e0 e1 e2
  subst e0 e1 e2
  obtain ⟨s', c', e3⟩ := RowsAt.form hr
  cases e3
  exact ⟨⟨a, b, s, cap, l⟩, rfl, RowsAt.ints hr, bounds_i64 wb⟩
set_option maxRecDepth 100000 in
theorem open_acts20 {H : Type} {enc : TypeId × Value → H} {w : World} {base : Nat} {v : Value} {d : DataW H} {p : List MemPlace} (hok : Value.okWide Try.prog w .any base 23 v) (h : DataW.Trod enc Try.prog w 0 (fun _ => true) true 23 v d p) :
    ∃ l, ActsAt w v l ∧ l.length ≤ 9223372036854775807 ∧ ∀ a ∈ l, In18 a.token := by
  obtain ⟨l, h1, h2, h3⟩ := open_rows csAc (fun a => IntsAt w a.v a.want ∧ -9223372036854775808 ≤ a.token ∧ a.token ≤ 9223372036854775807) Try.underlying23 cells_act20 (by decide) (fun _ _ _ hl h => trod_act20 hl h) hok h
  exact ⟨l, ⟨h1, fun a ha => (h3 a ha).1⟩, h2, fun a ha => (h3 a ha).2⟩
end Go.Proofs.Ytieopbeimcmheaa
/- Stage 20: what the proof of AislesGoes leans on. -/
namespace Go.Proofs.Ytieopbeimcmheaa
end Go.Proofs.Ytieopbeimcmheaa
