/- Texts of this proof, joined: AisLawG; AisSafeM; AisLawS; OpenBss. -/
import Derived.Test.YtieopbeimcmheaaBun16
import Derived.Deep.DeepCutAuto
/- Stage 20: the law AislesGoes. -/
namespace Go.Proofs.Ytieopbeimcmheaa
open Go.RowKit

theorem few_all20 {l : List Ac} {m : Int} (h : fewB l m = true) : (l.length : Int) ≤ m ∧ ∀ x ∈ l, x.want.length ≤ 40 := by
  unfold fewB at h
  simp only [Bool.and_eq_true, decide_eq_true_eq, List.all_eq_true] at h
  exact h
theorem SideG.sub21 {w w1 : World} {p : Value} {T : Tb} {bs bs' : List Bes} (h : SideG tbObj w w1 p T bs) (hs : ∀ b ∈ bs', b ∈ bs) : SideG tbObj w w1 p T bs' := by
  obtain ⟨F, h0, h1, h2, h3⟩ := h
  exact ⟨F, h0, h1, fun b hb => h2 b (hs b hb), h3⟩
set_option maxHeartbeats 4000000 in
set_option maxRecDepth 100000 in
theorem refMayN_any (va : Value) (l : List Int) (W : World) (ha : IntsAt W va l) :
    Calls Try.prog 19 #[va] W fun e w' => e = .returned (.bool (mayB l)) ∧ Below W.heap.size W w' := by
  by_cases h : l.length ≤ 1000
  · exact refMay20_any va l W ha h
  · have hm : mayB l = false := by
      unfold mayB
      rw [decide_eq_false (by omega), Bool.false_and]
    rw [hm]
    obtain ⟨a, c, rfl⟩ := ha.form
    have k1 : (32 : Int) < (l.length : Int) := by omega
    have hB := Below.refl W.heap.size W
    clear h hm ha
    go_enter Try.func19, Try.ntmps19
    go_wp2
    go_ret
    exact ⟨rfl, hB⟩

set_option maxHeartbeats 32000000 in
set_option maxRecDepth 100000 in
theorem aislesGoes_any (va vl : Value) (ids : List Int) (l : List Ac) (w : World) (ha : IntsAt w va ids) (hl : ActsAt w vl l) (hg : ∀ a ∈ l, In18 a.token) :
    Calls Try.prog 5 #[va, vl] w fun e w' => e = .returned (.bool true) ∧ Below w.heap.size w w' := by
  have HAL := Lib.hid fun w => alive20_any w
  have HFW := Lib.hid fun w1 (hb : Below w.heap.size w w1) => refFew20_any vl l 60 w1 (RowsAt.kept hl.rows hb) (by omega)
  have HMY := Lib.hid (refMayN_any va ids w ha)
  have HA := Lib.hid ha
  have HL := Lib.hid hl
  have HG := Lib.hid hg
  obtain ⟨a1, c1, rfl⟩ := ha.form
  obtain ⟨a2, c2, rfl⟩ := RowsAt.form hl.rows
  clear ha hl hg
  cases hmb : mayB ids with
  | false =>
    rw [hmb] at HMY
    go_enter Try.func5, Try.ntmps5
    go_wp2_with (first
      | (go_at_call 19; (with_reducible refine HMY.out.mono ?_); rintro e w1 ⟨rfl, hb1⟩)
      | (go_at_call 7; (with_reducible refine (HAL.out _).mono ?_); rintro e w5 ⟨rfl, hb⟩))
    go_ret
    exact ⟨rfl, hb1.trans (hb.mono hb1.size)⟩
  | true =>
    rw [hmb] at HMY
    cases hfw : fewB l 60 with
    | false =>
      rw [hfw] at HFW
      go_enter Try.func5, Try.ntmps5
      go_wp2_with (first
        | (go_at_call 19; (with_reducible refine HMY.out.mono ?_); rintro e w1 ⟨rfl, hb1⟩; have HB1 := Lib.hid hb1; clear hb1)
        | (go_at_call 6; (with_reducible refine (HFW.out _ HB1.out).mono ?_); rintro e w2 ⟨rfl, hb2⟩; have HB2 := Lib.hid (HB1.out.trans (hb2.mono HB1.out.size)); clear hb2)
        | (go_at_call 7; (with_reducible refine (HAL.out _).mono ?_); rintro e w5 ⟨rfl, hb⟩))
      go_ret
      exact ⟨rfl, HB2.out.trans (hb.mono HB2.out.size)⟩
    | true =>
      rw [hfw] at HFW
      have HFE := Lib.hid (few_all20 hfw)
      have HN := Lib.hid fun w1 (hb : Below w.heap.size w w1) => sNew (w := w) hb _ ids (HA.out.below hb) hmb
      clear hmb hfw
      go_enter Try.func5, Try.ntmps5
      go_wp2_with (first
        | (go_at_call 19; (with_reducible refine HMY.out.mono ?_); rintro e w1 ⟨rfl, hb1⟩; have HB1 := Lib.hid hb1; clear hb1)
        | (go_at_call 6; (with_reducible refine (HFW.out _ HB1.out).mono ?_); rintro e w2 ⟨rfl, hb2⟩; have HB2 := Lib.hid (HB1.out.trans (hb2.mono HB1.out.size)); clear hb2)
        | (go_at_call 8; (with_reducible refine (HN.out _ HB2.out).mono ?_); rintro e w3 ⟨pb, rfl, hs⟩; have S0 := Lib.hid hs; clear hs))
      go_loopg [7, 40] l.length (fun kx s7 kv wr => ∃ (k m : Nat) (T : Tb), k ≤ l.length ∧ l.length - k ≤ kx ∧ s7 = .int .i64 m ∧ kv = .int .i64 k ∧ Hid (T.todo + 1 ≤ m ∧ m ≤ 1 + 41 * k) ∧ Hid (SideG tbObj w wr (ptr18 pb) T []))
      case atStart => exact ⟨0, 1, Tb.new ids, Nat.zero_le _, Nat.le_refl _, rfl, rfl, ⟨Nat.le_refl _, Nat.le_refl _⟩, S0.out⟩
      case round =>
        clear S0
        obtain ⟨k, m, T, hk, hkx, rfl, rfl, HM, HS⟩ := hrel
        by_cases hlt : k < l.length
        · have HLT := Lib.hid hlt
          have K0 : (0 : Int) ≤ (k : Int) := by omega
          have K1 : (k : Int) < (l.length : Int) := by omega
          have K2 : (k : Int) ≤ 60 := by have := HFE.out.1; omega
          have M2 : (m : Int) ≤ 2461 := by have := HM.out.2; omega
          have M0 : (0 : Int) ≤ (m : Int) := by omega
          have HWL := Lib.hid (HFE.out.2 _ (List.getElem_mem hlt))
          have HWI := Lib.hid (HL.out.each _ (List.getElem_mem hlt))
          obtain ⟨g, o, _, e, _, _, p0, p1, p2⟩ := RowsAt.atA (RowsAt.kept HL.out.rows (SideG.below HS.out)) k hlt
          cases e
          have hy := HG.out _ (List.getElem_mem hlt)
          obtain ⟨⟨kk, t, xa, xc, xw⟩, har⟩ : ∃ r, l[k]'hlt = r := ⟨_, rfl⟩
          rw [har] at p0 p1 p2 hy HWL HWI
          simp only at p0 p1 p2 hy HWL HWI
          have HY := Lib.hid hy
          obtain ⟨xn, hxn⟩ : ∃ n, xw.length = n := ⟨_, rfl⟩
          replace HWI : Hid (IntsAt w (.slice xa xw.length xc) xw) := HWI
          change _ = some (Value.slice xa xw.length xc) at p2
          rw [hxn] at p2 HWI HWL
          have X2 : (xn : Int) ≤ 40 := by have := HWL.out; omega
          have X0 : (0 : Int) ≤ (xn : Int) := by omega
          have SB := Lib.hid (SideG.new HS.out (.int .i64 kk) [.int .i64 t, .slice xa xn xc] 37)
          have HXN := Lib.hid hxn
          clear hy har hk hxn
          by_cases f1 : kk = 1
          · subst f1
            have P := Lib.hid (sEnter SB.out t HY.out (.slice xa xn xc) xw (HWI.out.below (SideG.below SB.out)) (by have := HWL.out; have := HXN.out; omega))
            by_cases he : T.enterE t xw = 0
            · have HTD := Lib.hid (enter_todo he)
              rw [he] at P
              obtain ⟨T2, hT2⟩ : ∃ T2, T.enter t xw = T2 := ⟨_, rfl⟩
              rw [hT2] at P HTD
              rw [HXN.out] at HTD
              clear he hT2
              go_wp2_with (go_at_call 10; (with_reducible refine P.out.mono ?_); rintro e w3 ⟨rfl, hs⟩; have SS := Lib.hid hs; have r1 := Blk.cell (vs := [.int .i64 1, .int .i64 t, .slice xa xn xc]) (SideG.head SS.out) 2 rfl; clear hs)
              go_roundg (l.length - (k + 1))
              case measure => have := HLT.out; omega
              case rel => exact ⟨k + 1, m + (xn + 1), T2, by have := HLT.out; omega, Nat.le_refl _, by go_num, by go_num, (by have := HM.out; have := HTD.out; have := HWL.out; constructor <;> omega), SideG.sub21 SS.out (by simp)⟩
            · have hb : (T.enterE t xw == 0) = false := by simpa using he
              have HST := Lib.hid (enter_stay he)
              rw [HST.out] at P
              generalize T.enterE t xw = er at *
              clear he HST
              go_wp2_with (go_at_call 10; (with_reducible refine P.out.mono ?_); rintro e w3 ⟨rfl, hs⟩; have SS := Lib.hid hs; have r1 := Blk.cell (vs := [.int .i64 1, .int .i64 t, .slice xa xn xc]) (SideG.head SS.out) 0 rfl; clear hs)
              go_roundg (l.length - (k + 1))
              case measure => have := HLT.out; omega
              case rel => exact ⟨k + 1, m, T, by have := HLT.out; omega, Nat.le_refl _, rfl, by go_num, (by have := HM.out; constructor <;> omega), SideG.sub21 SS.out (by simp)⟩
          · have f1b : (kk == 1) = false := beq_noI f1
            by_cases f3 : kk = 3
            · subst f3
              clear f1 f1b
              have P := Lib.hid (sScan SB.out)
              have HTD := Lib.hid (scan_todo (SideG.ok HS.out))
              generalize T.scan = R at *
              obtain ⟨T2, D⟩ := R
              simp only at P HTD
              go_wp2_with (go_at_call 14; (with_reducible refine P.out.mono ?_); rintro e w3 ⟨vg, rfl, _, _, hs⟩; have SS := Lib.hid hs; clear hs)
              go_roundg (l.length - (k + 1))
              case measure => have := HLT.out; omega
              case rel => exact ⟨k + 1, m, T2, by have := HLT.out; omega, Nat.le_refl _, rfl, by go_num, (by have := HM.out; have := HTD.out; constructor <;> omega), SideG.sub21 SS.out (by simp)⟩
            · have f3b : (kk == 3) = false := beq_noI f3
              go_wp2
              go_roundg (l.length - (k + 1))
              case measure => have := HLT.out; omega
              case rel => exact ⟨k + 1, m, T, by have := HLT.out; omega, Nat.le_refl _, rfl, by go_num, (by have := HM.out; constructor <;> omega), SideG.sub21 SB.out (by simp)⟩
        · have g2 : ¬ (k : Int) < (l.length : Int) := by omega
          have HMM := Lib.hid (show T.todo + 1 ≤ m ∧ m ≤ 2461 from ⟨HM.out.1, by have := HM.out.2; have := HFE.out.1; omega⟩)
          clear HM
          go_wp2
          have M2 : (m : Int) ≤ 2461 := by have := HMM.out.2; omega
          go_loopg [10] T.todo (fun kx nv ws => ∃ (nn : Nat) (T2 : Tb), T2.todo ≤ kx ∧ nv = .int .i64 nn ∧ Hid (nn + T2.todo + 1 ≤ m) ∧ Hid (SideG tbObj w ws (ptr18 pb) T2 []))
          case atStart => exact ⟨0, T, Nat.le_refl _, rfl, (by have := HMM.out.1; show _ ≤ _; omega), HS.out⟩
          case round =>
            clear HS
            obtain ⟨nn, T, hkx, rfl, HNN, HS⟩ := hrel
            have HKX := Lib.hid hkx
            have N0 : (0 : Int) ≤ (nn : Int) := by omega
            have N2 : (nn : Int) ≤ 2461 := by have := HNN.out; have := HMM.out.2; omega
            have NM : ¬ (m : Int) < (nn : Int) := by have := HNN.out; omega
            have HTK := Lib.hid (sTokens HS.out)
            obtain ⟨tn, htn⟩ : ∃ tn, T.toks.length = tn := ⟨_, rfl⟩
            have HTN := Lib.hid htn
            clear hkx
            by_cases h0 : tn = 0
            · have Z0 : ¬ (0 : Int) < (tn : Int) := by omega
              clear h0 htn
              go_wp2_with (first
                | (go_at_call 20; (with_reducible refine HTK.out.mono ?_); rintro e w5 ⟨tv, rfl, hv, hb⟩; obtain ⟨ta, tc, hvf⟩ := hv.form; rw [HTN.out] at hvf; subst hvf; have HB5 := Lib.hid ((SideG.below HS.out).trans (hb.mono (SideG.below HS.out).size)); clear hb hv)
                | (go_at_call 16; (with_reducible refine (tGot_nil _ _).mono ?_); rintro e w6 ⟨rfl, hb⟩; have HB6 := Lib.hid (HB5.out.trans (hb.mono HB5.out.size)); clear hb)
                | (go_at_call 10; (with_reducible refine (tEnter_nil _ _ _).mono ?_); rintro e w7 ⟨rfl, hb⟩; have HB7 := Lib.hid (HB6.out.trans (hb.mono HB6.out.size)); clear hb)
                | (go_at_call 12; (with_reducible refine (tLeave_nil _ _).mono ?_); rintro e w8 ⟨rfl, hb⟩; have HB8 := Lib.hid (HB7.out.trans (hb.mono HB7.out.size)); clear hb)
                | (go_at_call 14; (with_reducible refine (tScan_nil _).mono ?_); rintro e w9 ⟨rfl, hb⟩; have HB9 := Lib.hid (HB8.out.trans (hb.mono HB8.out.size)); clear hb)
                | (go_at_call 21; (with_reducible refine (tView_nil _).mono ?_); rintro e w10 ⟨rfl, hb⟩; have HB10 := Lib.hid (HB9.out.trans (hb.mono HB9.out.size)); clear hb)
                | (go_at_call 20; (with_reducible refine (tTokens_nil _).mono ?_); rintro e w11 ⟨tv, rfl, hv, hb⟩; obtain ⟨ta2, tc2, hvf⟩ := hv.form; rw [show ([] : List Int).length = 0 from rfl] at hvf; subst hvf; have HB11 := Lib.hid (HB10.out.trans (hb.mono HB10.out.size)); clear hb hv)
                | (go_at_call 7; (with_reducible refine (HAL.out _).mono ?_); rintro e w12 ⟨rfl, hb⟩; have HB12 := Lib.hid (HB11.out.trans (hb.mono HB11.out.size)); clear hb))
              go_ret
              exact ⟨rfl, HB12.out⟩
            · have Z0 : (0 : Int) < (tn : Int) := by omega
              have hne : T.toks ≠ [] := fun e => h0 (by rw [← htn, e]; rfl)
              have hok := SideG.ok HS.out
              have HDT := Lib.hid (scan_todo hok)
              have HFG := Lib.hid (fun h : T.fullL = [] => scan_goes hok hne h)
              have HFS := Lib.hid (show (∀ x ∈ T.fullL, x ∈ T.scan.1.toks) ∧ T.fullL.Nodup from ⟨fun x hx => by rw [scan_toks]; exact full_sub hx, full_nodup hok⟩)
              have HFU := Lib.hid fun w1 (hs : SideG tbObj w w1 (ptr18 pb) T []) => sFullN hs
              have HSC := Lib.hid fun w1 (bs : List Bes) (hs : SideG tbObj w w1 (ptr18 pb) T bs) => sScan hs
              have hf64 : T.fullL.length ≤ 64 := Nat.le_trans (List.length_filter_le _ _) hok.few
              obtain ⟨FL, hFL⟩ : ∃ FL, T.fullL = FL := ⟨_, rfl⟩
              obtain ⟨⟨T2, D⟩, hR⟩ : ∃ R, T.scan = R := ⟨_, rfl⟩
              rw [hFL] at HFG HFS HFU hf64
              rw [hR] at HDT HFG HFS HSC
              simp only at HDT HFG HFS HSC
              obtain ⟨fn, hfn⟩ : ∃ fn, FL.length = fn := ⟨_, rfl⟩
              obtain ⟨dn, hdn⟩ : ∃ dn, D.length = dn := ⟨_, rfl⟩
              rw [hfn] at hf64
              have HF64 := Lib.hid hf64
              have HFN := Lib.hid hfn
              have HDN := Lib.hid hdn
              have hfd : dn = 0 → fn ≠ 0 := fun h1 h2 => HFG.out (List.eq_nil_of_length_eq_zero (by omega)) (List.eq_nil_of_length_eq_zero (by omega))
              have HFD := Lib.hid hfd
              clear h0 htn hne hok hFL hR hfn hdn HFG hf64
              by_cases hd0 : dn = 0
              · have hf0 := hfd hd0
                have D0 : ((dn : Int) == 0) = true := by subst hd0; rfl
                have F0 : ((fn : Int) == 0) = false := beq_noI (by omega)
                clear hd0 hfd hf0
                go_wp2_with (first
                  | (go_at_call 20; (with_reducible refine HTK.out.mono ?_); rintro e w5 ⟨tv, rfl, hv, hb⟩; obtain ⟨ta, tc, hvf⟩ := hv.form; rw [HTN.out] at hvf; subst hvf; have S5 := Lib.hid (HS.out.kept hb); clear hb hv)
                  | (go_at_call 23; (with_reducible refine (HFU.out _ S5.out).mono ?_); rintro e w6 ⟨fv, rfl, hv, hn, hb⟩; obtain ⟨fa, fc, hvf⟩ := hv.form; rw [HFN.out] at hvf; subst hvf; have S6 := Lib.hid (SideG.add S5.out hb (Bes.rows 1 csI (.slice fa fn fc) FL) (IntsAt.rows hv) (fun k hk => hn k hk.2)); clear hb hv hn)
                  | (go_at_call 14; (with_reducible refine (HSC.out _ _ S6.out).mono ?_); rintro e w7 ⟨gv, rfl, hv, _, hs⟩; obtain ⟨ga, gc, hvf⟩ := RowsAt.form hv; rw [HDN.out] at hvf; subst hvf; have S7 := Lib.hid hs; clear hs hv))
                clear HTK HFU HSC HS S5 S6
                go_loopg [90] fn (fun kx iv ws => ∃ (i : Nat) (T3 : Tb), i ≤ fn ∧ fn - i ≤ kx ∧ iv = .int .i64 i ∧ Hid ((∀ x ∈ FL.drop i, x ∈ T3.toks) ∧ T3.todo + i ≤ T2.todo) ∧ Hid (SideG tbObj w ws (ptr18 pb) T3 [Bes.rows 1 csI (.slice fa fn fc) FL]))
                case atStart => exact ⟨0, T2, Nat.zero_le _, Nat.le_refl _, rfl, ⟨fun x hx => HFS.out.1 x (by simpa using hx), Nat.le_refl _⟩, S7.out⟩
                case round =>
                  clear S7
                  obtain ⟨i, T3, hi, hix, rfl, HI, HS3⟩ := hrel
                  by_cases hit : i < fn
                  · have hil : i < FL.length := by rw [HFN.out]; exact hit
                    obtain ⟨g, o, cc, e1, _, _, xg⟩ := (show RowsAt _ 1 csI _ _ from SideG.head HS3.out).spot i hil
                    rw [HFN.out] at e1
                    cases e1
                    obtain ⟨x, hx⟩ : ∃ x, FL[i]'hil = x := ⟨_, rfl⟩
                    have m0 := xg 0 (.int .i64 x) (by rw [hx]; rfl)
                    simp only [Nat.add_zero, Nat.mul_one] at m0
                    have hdr : FL.drop i = x :: FL.drop (i + 1) := by rw [List.drop_eq_getElem_cons hil, hx]
                    have hxt : x ∈ T3.toks := HI.out.1 x (by rw [hdr]; simp)
                    have hnd : x ∉ FL.drop (i + 1) := by
                      have h9 := HFS.out.2.sublist (List.drop_sublist i FL)
                      rw [hdr] at h9
                      exact (List.nodup_cons.1 h9).1
                    have hin := ((SideG.ok HS3.out).pos x hxt).2
                    have P := Lib.hid (sLeave HS3.out x hin)
                    rw [decide_eq_true hxt] at P
                    have HI4 := Lib.hid (show (∀ y ∈ FL.drop (i + 1), y ∈ (T3.leave x).toks) ∧ (T3.leave x).todo + (i + 1) ≤ T2.todo from ⟨fun y hy => leave_toks (HI.out.1 y (by rw [hdr]; simp [hy])) fun e => hnd (e ▸ hy), by have := leave_todo hxt; have := HI.out.2; omega⟩)
                    generalize T3.leave x = T4 at *
                    have I0 : (0 : Int) ≤ (i : Int) := by omega
                    have I1 : (i : Int) < (fn : Int) := by omega
                    have I2 : (i : Int) ≤ 64 := by have := HF64.out; omega
                    have HIT := Lib.hid (And.intro hit hix)
                    clear xg hx hdr hxt hnd hin hit hix hi hil
                    go_wp2_with (go_at_call 12; (with_reducible refine P.out.mono ?_); rintro e w9 ⟨rfl, hs⟩; have S9 := Lib.hid hs; clear hs)
                    go_roundg (fn - (i + 1))
                    case measure => have := HIT.out; omega
                    case rel => exact ⟨i + 1, T4, by have := HIT.out; omega, Nat.le_refl _, by go_num, HI4.out, S9.out⟩
                  · have I1 : ¬ (i : Int) < (fn : Int) := by omega
                    have HT3 := Lib.hid (show T3.todo + 1 ≤ T.todo by have h1 := HI.out.2; have h2 := HDT.out; have h3 := HFD.out; have h4 := HDN.out; omega)
                    clear hit hix hi
                    go_wp2
                    go_roundg T3.todo
                    case measure => have := HT3.out; have := HKX.out; omega
                    case rel => exact ⟨nn + 1, T3, Nat.le_refl _, by go_num, (by have := HT3.out; have := HNN.out; show _ ≤ _; omega), SideG.sub21 HS3.out (by simp)⟩
              · have D0 : ((dn : Int) == 0) = false := beq_noI (by omega)
                clear hd0 hfd
                go_wp2_with (first
                  | (go_at_call 20; (with_reducible refine HTK.out.mono ?_); rintro e w5 ⟨tv, rfl, hv, hb⟩; obtain ⟨ta, tc, hvf⟩ := hv.form; rw [HTN.out] at hvf; subst hvf; have S5 := Lib.hid (HS.out.kept hb); clear hb hv)
                  | (go_at_call 23; (with_reducible refine (HFU.out _ S5.out).mono ?_); rintro e w6 ⟨fv, rfl, hv, hn, hb⟩; obtain ⟨fa, fc, hvf⟩ := hv.form; rw [HFN.out] at hvf; subst hvf; have S6 := Lib.hid (SideG.add S5.out hb (Bes.rows 1 csI (.slice fa fn fc) FL) (IntsAt.rows hv) (fun k hk => hn k hk.2)); clear hb hv hn)
                  | (go_at_call 14; (with_reducible refine (HSC.out _ _ S6.out).mono ?_); rintro e w7 ⟨gv, rfl, hv, _, hs⟩; obtain ⟨ga, gc, hvf⟩ := RowsAt.form hv; rw [HDN.out] at hvf; subst hvf; have S7 := Lib.hid hs; clear hs hv))
                clear HTK HFU HSC HS S5 S6
                go_loopg [90] fn (fun kx iv ws => ∃ (i : Nat) (T3 : Tb), i ≤ fn ∧ fn - i ≤ kx ∧ iv = .int .i64 i ∧ Hid ((∀ x ∈ FL.drop i, x ∈ T3.toks) ∧ T3.todo + i ≤ T2.todo) ∧ Hid (SideG tbObj w ws (ptr18 pb) T3 [Bes.rows 1 csI (.slice fa fn fc) FL]))
                case atStart => exact ⟨0, T2, Nat.zero_le _, Nat.le_refl _, rfl, ⟨fun x hx => HFS.out.1 x (by simpa using hx), Nat.le_refl _⟩, S7.out⟩
                case round =>
                  clear S7
                  obtain ⟨i, T3, hi, hix, rfl, HI, HS3⟩ := hrel
                  by_cases hit : i < fn
                  · have hil : i < FL.length := by rw [HFN.out]; exact hit
                    obtain ⟨g, o, cc, e1, _, _, xg⟩ := (show RowsAt _ 1 csI _ _ from SideG.head HS3.out).spot i hil
                    rw [HFN.out] at e1
                    cases e1
                    obtain ⟨x, hx⟩ : ∃ x, FL[i]'hil = x := ⟨_, rfl⟩
                    have m0 := xg 0 (.int .i64 x) (by rw [hx]; rfl)
                    simp only [Nat.add_zero, Nat.mul_one] at m0
                    have hdr : FL.drop i = x :: FL.drop (i + 1) := by rw [List.drop_eq_getElem_cons hil, hx]
                    have hxt : x ∈ T3.toks := HI.out.1 x (by rw [hdr]; simp)
                    have hnd : x ∉ FL.drop (i + 1) := by
                      have h9 := HFS.out.2.sublist (List.drop_sublist i FL)
                      rw [hdr] at h9
                      exact (List.nodup_cons.1 h9).1
                    have hin := ((SideG.ok HS3.out).pos x hxt).2
                    have P := Lib.hid (sLeave HS3.out x hin)
                    rw [decide_eq_true hxt] at P
                    have HI4 := Lib.hid (show (∀ y ∈ FL.drop (i + 1), y ∈ (T3.leave x).toks) ∧ (T3.leave x).todo + (i + 1) ≤ T2.todo from ⟨fun y hy => leave_toks (HI.out.1 y (by rw [hdr]; simp [hy])) fun e => hnd (e ▸ hy), by have := leave_todo hxt; have := HI.out.2; omega⟩)
                    generalize T3.leave x = T4 at *
                    have I0 : (0 : Int) ≤ (i : Int) := by omega
                    have I1 : (i : Int) < (fn : Int) := by omega
                    have I2 : (i : Int) ≤ 64 := by have := HF64.out; omega
                    have HIT := Lib.hid (And.intro hit hix)
                    clear xg hx hdr hxt hnd hin hit hix hi hil
                    go_wp2_with (go_at_call 12; (with_reducible refine P.out.mono ?_); rintro e w9 ⟨rfl, hs⟩; have S9 := Lib.hid hs; clear hs)
                    go_roundg (fn - (i + 1))
                    case measure => have := HIT.out; omega
                    case rel => exact ⟨i + 1, T4, by have := HIT.out; omega, Nat.le_refl _, by go_num, HI4.out, S9.out⟩
                  · have I1 : ¬ (i : Int) < (fn : Int) := by omega
                    have HT3 := Lib.hid (show T3.todo + 1 ≤ T.todo by have h1 := HI.out.2; have h2 := HDT.out; have h3 := HFD.out; have h4 := HDN.out; omega)
                    clear hit hix hi
                    go_wp2
                    go_roundg T3.todo
                    case measure => have := HT3.out; have := HKX.out; omega
                    case rel => exact ⟨nn + 1, T3, Nat.le_refl _, by go_num, (by have := HT3.out; have := HNN.out; show _ ≤ _; omega), SideG.sub21 HS3.out (by simp)⟩
end Go.Proofs.Ytieopbeimcmheaa
/- Stage 20: a map from ints to lists that lie anywhere; what AislesSafe asks of a table. -/
namespace Go.Proofs.Ytieopbeimcmheaa
open Go.RowKit Go.Maps

/-- a list's header, wherever it points -/
structure Ah where
  a : Option Addr
  n : Nat
  c : Nat
def ahv (x : Ah) : Value := .slice x.a x.n x.c
def ah0 : Ah := ⟨none, 0, 0⟩
def encA : Ah → DataW Unit
  | ⟨none, n, c⟩ => .agg [.lit (.int .i64 (-1)), .lit (.int .i64 0), .lit (.int .i64 0), .lit (.int .i64 (n : Int)), .lit (.int .i64 (c : Int))]
  | ⟨some ⟨b, o, none⟩, n, c⟩ => .agg [.lit (.int .i64 (b : Int)), .lit (.int .i64 (o : Int)), .lit (.int .i64 (-1)), .lit (.int .i64 (n : Int)), .lit (.int .i64 (c : Int))]
  | ⟨some ⟨b, o, some s⟩, n, c⟩ => .agg [.lit (.int .i64 (b : Int)), .lit (.int .i64 (o : Int)), .lit (.int .i64 (s : Int)), .lit (.int .i64 (n : Int)), .lit (.int .i64 (c : Int))]
def readA : Value → Option (DataW Unit × List MemPlace)
  | .slice a n c => some (encA ⟨a, n, c⟩, [])
  | _ => none
theorem encA_inj {x y : Ah} (h : encA x = encA y) : x = y := by
  obtain ⟨a, n, c⟩ := x
  obtain ⟨a', n', c'⟩ := y
  rcases a with _ | ⟨b, o, _ | s⟩ <;> rcases a' with _ | ⟨b', o', _ | s'⟩ <;>
    simp only [encA, DataW.agg.injEq, List.cons.injEq, DataW.lit.injEq, Lit.int.injEq, true_and, and_true] at h
  all_goals first
    | (exfalso; omega)
    | (obtain ⟨h1, h2⟩ := h; have e1 : n = n' := by omega
       have e2 : c = c' := by omega
       subst e1 e2; rfl)
    | (obtain ⟨h1, h2, h3, h4⟩ := h; have e1 : b = b' := by omega
       have e2 : o = o' := by omega
       have e3 : n = n' := by omega
       have e4 : c = c' := by omega
       subst e1 e2 e3 e4; rfl)
    | (obtain ⟨h1, h2, h3, h4, h5⟩ := h; have e1 : b = b' := by omega
       have e2 : o = o' := by omega
       have e3 : s = s' := by omega
       have e4 : n = n' := by omega
       have e5 : c = c' := by omega
       subst e1 e2 e3 e4 e5; rfl)
noncomputable def EA : Elt Try.prog 22 where
  α := Ah
  val := ahv
  enc := encA
  ok := fun _ => True
  z := ah0
  R := readA
  out := fun x _ => rfl
  inv := fun v x ps h => by
    unfold readA at h
    split at h
    · rename_i a n c
      have h1 := congrArg Prod.fst (Option.some.inj h)
      have h2 : (⟨a, n, c⟩ : Ah) = x := encA_inj h1
      rw [← h2]
      rfl
    · cases h
  okz := trivial
  hz := fun w => by kernel_rfl
def MapA (w : World) (b m : Nat) (g : Int → Option Ah) : Prop := MapG EA 3 w b m g
section
variable {w w' : World} {b m : Nat} {g : Int → Option Ah}
theorem MapA.lt (h : MapA w b m g) : b < w.heap.size := MapG.lt h
theorem MapA.same (h : MapA w b m g) (he : w'.heap[b]? = w.heap[b]?) : MapA w' b m g := MapG.same h he
theorem MapA.kept (h : MapA w b m g) (hb : Below w.heap.size w w') : MapA w' b m g := MapG.kept h hb
theorem MapA.new (w : World) : MapA (w.alloc (.map #[] 0)) w.heap.size 0 (fun _ => none) := MapG.new w
theorem MapA.ne_cell {a : Addr} {u : Value} (h : MapA w b m g) (hk : w.cell? a = some u) : b ≠ a.block := MapG.ne_cell h hk
theorem MapA.look1 (h : MapA w b m g) {id : Int} (hi : I64 id) : (Instr.lookup 59 (.map (some b)) (.int .i64 id) false).run Try.prog w = .ok (ahv ((g id).getD ah0)) w :=
  MapG.look1 (E := EA) h Try.underlying3 Try.underlying59 hi
theorem MapA.put (h : MapA w b m g) (hn : m ≤ 1000000) {id : Int} (hi : I64 id) (y : Ah) :
    ∃ w', (Instr.mapUpdate 59 (.map (some b)) (.int .i64 id) (ahv y)).run Try.prog w = .ok () w' ∧ MapA w' b (if (g id).isSome then m else m + 1) (updG g id (some y)) ∧ w.grownBy w' (some b) :=
  MapG.stored (E := EA) h Try.underlying3 Try.underlying59 (by unfold maxLen; omega) hi y trivial
end
def Bes.map (b m : Nat) (g : Int → Option Ah) : Bes := ⟨fun w => MapA w b m g, fun k => k = b, fun h _ he => h.same (he b rfl), fun h k hk => by rw [hk]; exact h.lt⟩
section
variable {w w1 w2 : World} {p : Value} {T : Tb} {bs : List Bes}
theorem SideG.mput {b m m' : Nat} {g g' : Int → Option Ah} (h : SideG tbObj w w1 p T (Bes.map b m g :: bs)) (hb : w.heap.size ≤ b) (ho : ∀ s ∈ bs, ¬ s.foot b) (hg : w1.grownBy w2 (some b)) (hm : MapA w2 b m' g') : SideG tbObj w w2 p T (Bes.map b m' g' :: bs) := by
  obtain ⟨F, h0, h1, h2, h3⟩ := h
  have hnF := (h2 _ List.mem_cons_self).2 b rfl
  have hbk : ∀ k, k < w1.heap.size → k ≠ b → w2.heap[k]? = w1.heap[k]? := fun k hk hn => hg.block k hk fun e => hn (Option.some.inj e)
  refine ⟨F, tbObj.same h0 hg.size fun k hk => hbk k (tbObj.lt h0 k hk) fun e => hnF (e ▸ hk), h1, fun x hx => ?_, h3.grown hg h3.size fun k hk => by rw [← Option.some.inj hk]; exact hb⟩
  rcases List.mem_cons.1 hx with rfl | hx
  · exact ⟨hm, fun k hk => (by rw [show k = b from hk]; exact hnF)⟩
  · obtain ⟨k1, k2⟩ := h2 x (List.mem_cons_of_mem _ hx)
    exact ⟨x.same k1 hg.size fun k hk => hbk k (x.lt k1 k hk) fun e => ho x hx (e ▸ hk), k2⟩
end
/-- the map has what each token in the table wants -/
def Wants (W : World) (g : Int → Option Ah) (T : Tb) : Prop := ∀ t ∈ T.toks, ∃ x, g t = some x ∧ x.n = (T.want t).length ∧ IntsAt W (ahv x) (T.want t)
theorem enterE_out {T : Tb} {t : Int} {l : List Int} (he : T.enterE t l = 0) : t ∉ T.toks := (enterE_ok he).2.2.2.1
theorem Wants.enter {W : World} {g : Int → Option Ah} {T : Tb} {t : Int} {l : List Int} (h : Wants W g T) (he : T.enterE t l = 0) {x : Ah} (hn : x.n = l.length) (hi : IntsAt W (ahv x) l) : Wants W (updG g t (some x)) (T.enter t l) := by
  have e1 : (T.enter t l).toks = insI t T.toks ∧ (T.enter t l).want = upF T.want t l := by
    unfold Tb.enter
    rw [if_pos he]
    have := ask_ids (T.put t l) t
    exact ⟨this.2.1, this.2.2.1⟩
  intro t' ht'
  rw [e1.1] at ht'
  rw [e1.2]
  by_cases e : t' = t
  · subst e
    exact ⟨x, updG_same _ _ _, by rw [upF_same]; exact hn, by rw [upF_same]; exact hi⟩
  · rcases insI_mem.1 ht' with h1 | h1
    · exact (e h1).elim
    · obtain ⟨y, h2, h3, h4⟩ := h t' h1
      exact ⟨y, by rw [updG_other _ _ e]; exact h2, by rw [upF_ne _ _ e]; exact h3, by rw [upF_ne _ _ e]; exact h4⟩
theorem Wants.leave {W : World} {g : Int → Option Ah} {T : Tb} (h : Wants W g T) (t : Int) : Wants W g (T.leave t) := by
  unfold Tb.leave
  split
  · intro t' ht'
    exact h t' (List.mem_filter.1 ht').1
  · exact h
theorem Wants.scan {W : World} {g : Int → Option Ah} {T : Tb} (h : Wants W g T) : Wants W g T.scan.1 := by
  have e := scanL_ids T T.ids
  intro t ht
  rw [show T.scan.1.toks = T.toks from e.2.1] at ht
  rw [show T.scan.1.want = T.want from e.2.2]
  exact h t ht
/-- who holds an aisle holds it rightly -/
theorem held_iff {T : Tb} (hok : T.Ok) {t id : Int} (ht : t ∈ T.toks) (hi : id ∈ T.ids) : (T.hd id == t) = inL ((T.want t).take (T.got t)) id := by
  have h1 := (hok.pos t ht).1
  by_cases e : id ∈ (T.want t).take (T.got t)
  · have h2 := hok.held t ht id e
    unfold inL
    simp [h2, e]
  · have h2 : T.hd id ≠ t := fun h3 => by
      have := (hok.hold id hi (by omega)).2
      rw [h3] at this
      exact e this
    unfold inL
    simp [h2, e]
end Go.Proofs.Ytieopbeimcmheaa
/- Stage 20: the law AislesSafe. -/
namespace Go.Proofs.Ytieopbeimcmheaa
open Go.RowKit Go.Maps

theorem lks_at20 {Vs : List Lr} {T : Tb} (h : Vs.map lkp = T.lks) {i : Nat} (hi : i < Vs.length) : ∃ id ∈ T.ids, Vs[i].id = id ∧ Vs[i].holder = T.hd id ∧ Vs[i].wait = T.wt id := by
  have h1 : lkp Vs[i] ∈ T.lks := by rw [← h]; exact List.mem_map_of_mem (List.getElem_mem hi)
  obtain ⟨id, hid, e⟩ := List.mem_map.1 h1
  simp only [lkp, Prod.mk.injEq] at e
  exact ⟨id, hid, e.1.symm, e.2.1.symm, e.2.2.symm⟩
set_option maxHeartbeats 32000000 in
set_option maxRecDepth 100000 in
theorem aislesSafe_any (va vl : Value) (ids : List Int) (l : List Ac) (w : World) (ha : IntsAt w va ids) (hl : ActsAt w vl l) (hg : ∀ a ∈ l, In18 a.token) :
    Calls Try.prog 4 #[va, vl] w fun e w' => e = .returned (.bool true) ∧ Below w.heap.size w w' := by
  have HAL := Lib.hid fun w => alive20_any w
  have HFW := Lib.hid fun w1 (hb : Below w.heap.size w w1) => refFew20_any vl l 80 w1 (RowsAt.kept hl.rows hb) (by omega)
  have HMY := Lib.hid (refMayN_any va ids w ha)
  have HA := Lib.hid ha
  have HL := Lib.hid hl
  have HG := Lib.hid hg
  obtain ⟨a1, c1, rfl⟩ := ha.form
  obtain ⟨a2, c2, rfl⟩ := RowsAt.form hl.rows
  clear ha hl hg
  cases hmb : mayB ids with
  | false =>
    rw [hmb] at HMY
    go_enter Try.func4, Try.ntmps4
    go_wp2_with (first
      | (go_at_call 19; (with_reducible refine HMY.out.mono ?_); rintro e w1 ⟨rfl, hb1⟩)
      | (go_at_call 7; (with_reducible refine (HAL.out _).mono ?_); rintro e w5 ⟨rfl, hb⟩))
    go_ret
    exact ⟨rfl, hb1.trans (hb.mono hb1.size)⟩
  | true =>
    rw [hmb] at HMY
    cases hfw : fewB l 80 with
    | false =>
      rw [hfw] at HFW
      go_enter Try.func4, Try.ntmps4
      go_wp2_with (first
        | (go_at_call 19; (with_reducible refine HMY.out.mono ?_); rintro e w1 ⟨rfl, hb1⟩; have HB1 := Lib.hid hb1; clear hb1)
        | (go_at_call 6; (with_reducible refine (HFW.out _ HB1.out).mono ?_); rintro e w2 ⟨rfl, hb2⟩; have HB2 := Lib.hid (HB1.out.trans (hb2.mono HB1.out.size)); clear hb2)
        | (go_at_call 7; (with_reducible refine (HAL.out _).mono ?_); rintro e w5 ⟨rfl, hb⟩))
      go_ret
      exact ⟨rfl, HB2.out.trans (hb.mono HB2.out.size)⟩
    | true =>
      rw [hfw] at HFW
      have HFE := Lib.hid (few_all20 hfw)
      have HN := Lib.hid fun w1 (hb : Below w.heap.size w w1) => sNew (w := w) hb _ ids (HA.out.below hb) hmb
      have hmk : ∀ w : World, (Instr.makeMap 59 none).run Try.prog w = .ok (.map (some w.heap.size)) (w.alloc (.map #[] 0)) := fun w => by kernel_rfl
      clear hmb hfw
      go_enter Try.func4, Try.ntmps4
      go_wp2_with (first
        | (go_at_call 19; (with_reducible refine HMY.out.mono ?_); rintro e w1 ⟨rfl, hb1⟩; have HB1 := Lib.hid hb1; clear hb1)
        | (go_at_call 6; (with_reducible refine (HFW.out _ HB1.out).mono ?_); rintro e w2 ⟨rfl, hb2⟩; have HB2 := Lib.hid (HB1.out.trans (hb2.mono HB1.out.size)); clear hb2)
        | (go_at_call 8; (with_reducible refine (HN.out _ HB2.out).mono ?_); rintro e w3 ⟨pb, rfl, hs⟩; have S0 := Lib.hid hs; clear hs))
      obtain ⟨mb, hmb⟩ : ∃ b, w3.heap.size = b := ⟨_, rfl⟩
      have HBW := Lib.hid (show w.heap.size ≤ mb by rw [← hmb]; exact (SideG.below S0.out).size)
      have S1 := Lib.hid (SideG.add S0.out ((Below.refl _ _).alloc (Nat.le_refl _) (.map #[] 0)) (Bes.map w3.heap.size 0 (fun _ => none)) (MapA.new w3) (fun k hk => by rw [show k = w3.heap.size from hk]; exact Nat.le_refl _))
      rw [hmb] at S1
      have HMB1 := Lib.hid hmb
      rw [hmb]
      clear hmb S0
      go_loopg [44] l.length (fun kx kv wr => ∃ (k m : Nat) (T : Tb) (g : Int → Option Ah), k ≤ l.length ∧ l.length - k ≤ kx ∧ kv = .int .i64 k ∧ Hid (m ≤ k) ∧ Hid (Wants w g T) ∧ Hid (SideG tbObj w wr (ptr18 pb) T [Bes.map mb m g]))
      case atStart => exact ⟨0, 0, Tb.new ids, fun _ => none, Nat.zero_le _, Nat.le_refl _, rfl, Nat.le_refl _, (fun t ht => (by cases ht)), S1.out⟩
      case round =>
        clear S1
        obtain ⟨k, m, T, g, hk, hkx, rfl, HM, HW, HS⟩ := hrel
        by_cases hlt : k < l.length
        · have HLT := Lib.hid hlt
          have K0 : (0 : Int) ≤ (k : Int) := by omega
          have K1 : (k : Int) < (l.length : Int) := by omega
          have K2 : (k : Int) ≤ 80 := by have := HFE.out.1; omega
          have HMK := Lib.hid (show m ≤ 1000 by have := HM.out; omega)
          have HWL := Lib.hid (HFE.out.2 _ (List.getElem_mem hlt))
          have HWI := Lib.hid (HL.out.each _ (List.getElem_mem hlt))
          obtain ⟨g', o, _, e, _, _, p0, p1, p2⟩ := RowsAt.atA (RowsAt.kept HL.out.rows (SideG.below HS.out)) k hlt
          cases e
          have hy := HG.out _ (List.getElem_mem hlt)
          obtain ⟨⟨kk, t, xa, xc, xw⟩, har⟩ : ∃ r, l[k]'hlt = r := ⟨_, rfl⟩
          rw [har] at p0 p1 p2 hy HWL HWI
          simp only at p0 p1 p2 hy HWL HWI
          have HY := Lib.hid hy
          obtain ⟨xn, hxn⟩ : ∃ n, xw.length = n := ⟨_, rfl⟩
          replace HWI : Hid (IntsAt w (.slice xa xw.length xc) xw) := HWI
          change _ = some (Value.slice xa xw.length xc) at p2
          rw [hxn] at p2 HWI HWL
          have HOK := Lib.hid (SideG.ok HS.out)
          have HBL := Lib.hid (show mb < wr.heap.size from (SideG.head HS.out : MapA wr mb m g).lt)
          have SB := Lib.hid (SideG.swap (SideG.new HS.out (.int .i64 kk) [.int .i64 t, .slice xa xn xc] 37))
          have HXN := Lib.hid hxn
          clear hy har hk hxn
          go_upto_block 2 with fail
          go_cut [] (fun wx => ∃ (m : Nat) (T : Tb) (g : Int → Option Ah), Hid (m ≤ k + 1) ∧ Hid (Wants w g T) ∧ Hid (kk = 3 → ∀ a ∈ T.ids, T.hd a ≠ 0 ∨ T.wt a = []) ∧ Hid (SideG tbObj w wx (ptr18 pb) T [Bes.map mb m g, Bes.blk wr.heap.size (.int .i64 kk) [.int .i64 t, .slice xa xn xc]]))
          case first =>
            by_cases f1 : kk = 1
            · subst f1
              have P := Lib.hid (sEnter SB.out t HY.out (.slice xa xn xc) xw (HWI.out.below (SideG.below SB.out)) (by have := HWL.out; have := HXN.out; omega))
              by_cases he : T.enterE t xw = 0
              · have HW2 := Lib.hid (HW.out.enter he (x := ⟨xa, xn, xc⟩) HXN.out.symm HWI.out)
                rw [he] at P
                generalize T.enter t xw = T2 at *
                clear he
                go_upto_region 13 with (go_at_call 10; (with_reducible refine P.out.mono ?_); rintro e w3 ⟨rfl, hs⟩; have SS := Lib.hid hs; have r1 := Blk.cell (vs := [.int .i64 1, .int .i64 t, .slice xa xn xc]) (SideG.head (SideG.less SS.out)) 1 rfl; have r2 := Blk.cell (vs := [.int .i64 1, .int .i64 t, .slice xa xn xc]) (SideG.head (SideG.less SS.out)) 2 rfl; clear hs)
                obtain ⟨w4, hrun, hm4, hg4⟩ := MapA.put (show MapA w3 mb m g from SideG.head SS.out) (by have := HMK.out; omega) (show I64 t from HY.out) ⟨xa, xn, xc⟩
                have S4 := Lib.hid (SideG.mput SS.out HBW.out (by intro s hs hf; have e0 : s = Bes.blk wr.heap.size (.int .i64 1) [.int .i64 t, .slice xa xn xc] := (by simpa using hs); subst e0; have e : mb = wr.heap.size := hf; have := HBL.out; omega) hg4 hm4)
                have HMM := Lib.hid (show (if (g t).isSome then m else m + 1) ≤ k + 1 by have := HM.out; split <;> omega)
                generalize (if (g t).isSome then m else m + 1) = m2 at *
                replace hrun : (Instr.mapUpdate 59 (.map (some mb)) (.int .i64 t) (.slice xa xn xc)).run Try.prog w3 = .ok () w4 := hrun
                clear hm4 hg4
                go_wp2
                go_meet
                exact ⟨m2, T2, _, HMM.out, HW2.out, (fun h => (by omega)), S4.out⟩
              · have hb : (T.enterE t xw == 0) = false := by simpa using he
                have HST := Lib.hid (enter_stay he)
                rw [HST.out] at P
                generalize T.enterE t xw = er at *
                clear he HST
                go_wp2_with (go_at_call 10; (with_reducible refine P.out.mono ?_); rintro e w3 ⟨rfl, hs⟩; have SS := Lib.hid hs; clear hs)
                go_meet
                exact ⟨m, T, g, (by have := HM.out; show _ ≤ _; omega), HW.out, (fun h => (by omega)), SS.out⟩
            · have f1b : (kk == 1) = false := beq_noI f1
              by_cases f2 : kk = 2
              · subst f2
                clear f1 f1b
                have P := Lib.hid (sLeave SB.out t HY.out)
                have HW2 := Lib.hid (HW.out.leave t)
                generalize T.leave t = T2 at *
                generalize decide (t ∈ T.toks) = er at *
                go_wp2_with (go_at_call 12; (with_reducible refine P.out.mono ?_); rintro e w3 ⟨rfl, hs⟩; have SS := Lib.hid hs; clear hs)
                go_meet
                exact ⟨m, T2, g, (by have := HM.out; show _ ≤ _; omega), HW2.out, (fun h => (by omega)), SS.out⟩
              · have f2b : (kk == 2) = false := beq_noI f2
                by_cases f3 : kk = 3
                · subst f3
                  clear f1 f1b f2 f2b
                  have P := Lib.hid (sScan SB.out)
                  have HW2 := Lib.hid HW.out.scan
                  have HSF := Lib.hid (scan_free HOK.out)
                  rw [← show T.scan.1.ids = T.ids from (scanL_ids T T.ids).1] at HSF
                  generalize T.scan = R at *
                  obtain ⟨T2, D⟩ := R
                  simp only at P HW2 HSF
                  go_wp2_with (go_at_call 14; (with_reducible refine P.out.mono ?_); rintro e w3 ⟨vg, rfl, _, _, hs⟩; have SS := Lib.hid hs; clear hs)
                  go_meet
                  exact ⟨m, T2, g, (by have := HM.out; show _ ≤ _; omega), HW2.out, (fun _ => HSF.out), SS.out⟩
                · have f3b : (kk == 3) = false := beq_noI f3
                  go_wp2
                  go_meet
                  exact ⟨m, T, g, (by have := HM.out; show _ ≤ _; omega), HW.out, (fun h => (f3 h).elim), SB.out⟩
          case rest =>
            clear SB HS HM HW HOK HWL HWI HXN p0 p1 p2 HMK
            obtain ⟨m, T, g, HM, HW, HF3, HS⟩ := hcut
            generalize wr.heap.size = ba at *
            have HTK := Lib.hid (sTokens HS.out)
            have HVW := Lib.hid fun w1 (hs : SideG tbObj w w1 (ptr18 pb) T [Bes.map mb m g, Bes.blk ba (.int .i64 kk) [.int .i64 t, .slice xa xn xc]]) => sView hs
            have HOK := Lib.hid (SideG.ok HS.out)
            obtain ⟨tn, htn⟩ : ∃ tn, T.toks.length = tn := ⟨_, rfl⟩
            have HTN := Lib.hid htn
            clear htn
            go_wp2_with (first
              | (go_at_call 20; (with_reducible refine HTK.out.mono ?_); rintro e w5 ⟨tv, rfl, hv, hb⟩; obtain ⟨ta, tc, hvf⟩ := hv.form; rw [HTN.out] at hvf; subst hvf; have S5 := Lib.hid (HS.out.kept hb); have HTV := Lib.hid hv; clear hb hv)
              | (go_at_call 21; (with_reducible refine (HVW.out _ S5.out).mono ?_); rintro e w6 ⟨v, Vs, rfl, hv, hm, hb⟩; obtain ⟨va, vc, hvf⟩ := RowsAt.form hv.rows; obtain ⟨vn, hvn⟩ : ∃ n, Vs.length = n := ⟨_, rfl⟩; rw [hvn] at hvf; subst hvf; have HVN := Lib.hid hvn; have HV := Lib.hid hv; have HVM := Lib.hid hm; have S6 := Lib.hid (S5.out.kept hb); have HT6 := Lib.hid (HTV.out.below hb); clear hb hv hm hvn))
            have HVL := Lib.hid (show vn ≤ 32 by have h1 := lks_len HVM.out; have h2 := may_len HOK.out.may; have h3 := HVN.out; omega)
            clear S5 HTV HTK HS
            have hb6 := Below.refl w6.heap.size w6
            go_loopg [79] vn (fun kx iv ws => ∃ i : Nat, i ≤ vn ∧ vn - i ≤ kx ∧ iv = .int .i64 i ∧ Below w6.heap.size w6 ws)
            case atStart => exact ⟨0, Nat.zero_le _, Nat.le_refl _, rfl, hb6⟩
            case round =>
              clear hb6
              obtain ⟨i, hi, hix, rfl, hbr⟩ := hrel
              by_cases hit : i < vn
              · have HIT := Lib.hid (And.intro hit hix)
                have I0 : (0 : Int) ≤ (i : Int) := by omega
                have I1 : (i : Int) < (vn : Int) := by omega
                have I2 : (i : Int) ≤ 32 := by have := HVL.out; omega
                have hil : i < Vs.length := by rw [HVN.out]; exact hit
                obtain ⟨g1, o1, cc1, e1, _, _, m0, m1, m2⟩ := RowsAt.atL (HV.out.below hbr).rows i hil
                rw [HVN.out] at e1
                cases e1
                obtain ⟨id, hid, q1, q2, q3⟩ := lks_at20 HVM.out hil
                have hwi := (HV.out.each _ (List.getElem_mem hil)).below hbr
                obtain ⟨⟨xi, xh, ya, yc, yw⟩, hx⟩ : ∃ x, Vs[i]'hil = x := ⟨_, rfl⟩
                rw [hx] at m0 m1 m2 q1 q2 q3 hwi
                simp only at m0 m1 m2 q1 q2 q3 hwi
                subst q1
                obtain ⟨yn, hyn⟩ : ∃ n, yw.length = n := ⟨_, rfl⟩
                replace hwi : IntsAt wr (.slice ya yw.length yc) yw := hwi
                change _ = some (Value.slice ya yw.length yc) at m2
                rw [hyn] at m2 hwi
                have HYN := Lib.hid hyn
                have HFR := Lib.hid (show kk = 3 → xh ≠ 0 ∨ yn = 0 from fun h => by
                  rcases HF3.out h xi hid with h1 | h1
                  · exact .inl (by rw [q2]; exact h1)
                  · exact .inr (by rw [← hyn, q3, h1]; rfl))
                have HHD := Lib.hid (show xh ≠ 0 → inL T.toks xh = true from fun h => by
                  rw [q2] at h ⊢
                  exact decide_eq_true (HOK.out.hold xi hid h).1)
                have HWT := Lib.hid (show ∀ u ∈ yw, u ∈ T.toks ∧ T.nx u = some xi from fun u hu => HOK.out.wait xi hid u (by rw [← q3]; exact hu))
                have HYL := Lib.hid (show yn ≤ 64 by rw [← hyn, q3]; exact HOK.out.wlen hid)
                have hb7 := (Below.refl wr.heap.size wr).alloc (Nat.le_refl _) (.cells #[.int .i64 xi, .int .i64 xh, .slice ya yn yc] 63)
                have hX := Blk.new wr [.int .i64 xi, .int .i64 xh, .slice ya yn yc] 63
                have b0 := hX.cell 0 rfl
                have b1 := hX.cell 1 rfl
                have b2 := hX.cell 2 rfl
                have HB7 := Lib.hid (hbr.trans (hb7.mono hbr.size))
                have S7 := Lib.hid ((S6.out.kept hbr).kept hb7)
                have HT7 := Lib.hid ((HT6.out.below hbr).below hb7)
                have HWI7 := Lib.hid (hwi.below hb7)
                have k0 := Blk.cell (vs := [.int .i64 kk, .int .i64 t, .slice xa xn xc]) (SideG.head (SideG.less S7.out)) 0 rfl
                clear hit hix hi hil hid q2 q3 hx hyn hwi hX hb7 hbr
                go_upto_region 22 with fail
                clear m0 m1 m2
                generalize wr.alloc (.cells #[.int .i64 xi, .int .i64 xh, .slice ya yn yc] 63) = W7 at *
                generalize wr.heap.size = bx at *
                have HIN := Lib.hid (refIn_any (.slice ta tn tc) T.toks xh W7 HT7.out (by have := HOK.out.few; omega))
                have hb0 := Below.refl W7.heap.size W7
                go_cut [108] (fun c wx => c = .bool false ∧ Below W7.heap.size W7 wx)
                case first =>
                  by_cases hz : xh = 0
                  · subst hz
                    by_cases h3 : kk = 3
                    · have hy0 : yn = 0 := (HFR.out h3).resolve_left (fun h => h rfl)
                      have Y0 : ¬ (0 : Int) < (yn : Int) := by omega
                      subst h3
                      go_wp2
                      go_meet
                      exact ⟨rfl, hb0⟩
                    · have h3b : (kk == 3) = false := beq_noI h3
                      clear h3
                      go_wp2
                      go_meet
                      exact ⟨rfl, hb0⟩
                  · have hzb : (xh == 0) = false := beq_noI hz
                    rw [HHD.out hz] at HIN
                    have hz' : ¬ xh = 0 := hz
                    by_cases h3 : kk = 3
                    · subst h3
                      go_wp2_with (go_at_call 22; (with_reducible refine HIN.out.mono ?_); rintro e w8 ⟨rfl, rfl⟩)
                      go_meet
                      exact ⟨rfl, hb0⟩
                    · have h3b : (kk == 3) = false := beq_noI h3
                      clear h3
                      go_wp2_with (go_at_call 22; (with_reducible refine HIN.out.mono ?_); rintro e w8 ⟨rfl, rfl⟩)
                      go_meet
                      exact ⟨rfl, hb0⟩
                case rest =>
                  obtain ⟨rfl, hb8⟩ := hcut
                  have HB8 := Lib.hid hb8
                  have b2' := (hb8.cell (World.block_lt_of_cell? _ _ b2)).trans b2
                  clear HIN hb0 b1 k0 HFR HHD hb8
                  go_wp2
                  clear b2'
                  go_loopg [112] yn (fun kx iv ws => ∃ j : Nat, j ≤ yn ∧ yn - j ≤ kx ∧ iv = .int .i64 j ∧ Below W7.heap.size W7 ws)
                  case atStart => exact ⟨0, Nat.zero_le _, Nat.le_refl _, rfl, HB8.out⟩
                  case round =>
                    clear HB8
                    obtain ⟨j, hj, hjx, rfl, hbj⟩ := hrel
                    by_cases hjt : j < yn
                    · have HJT := Lib.hid (And.intro hjt hjx)
                      have J0 : (0 : Int) ≤ (j : Int) := by omega
                      have J1 : (j : Int) < (yn : Int) := by omega
                      have J2 : (j : Int) ≤ 64 := by have := HYL.out; omega
                      have hjl : j < yw.length := by rw [HYN.out]; exact hjt
                      obtain ⟨g2, o2, cc2, e2, _, _, m0⟩ := (HWI7.out.below hbj).spot j hjl
                      rw [HYN.out] at e2
                      cases e2
                      obtain ⟨u, hu⟩ : ∃ u, yw[j]'hjl = u := ⟨_, rfl⟩
                      rw [hu] at m0
                      obtain ⟨hut, hun⟩ := HWT.out u (by rw [← hu]; exact List.getElem_mem hjl)
                      obtain ⟨hgl, hget⟩ := nx_at hun
                      obtain ⟨⟨sa, sn, sc⟩, hgu, hsn, hsi⟩ := HW.out u hut
                      have hgr : gotR T u = ((T.got u : Int), ((T.want u).length : Int)) := if_pos hut
                      have hu18 : I64 u := (HOK.out.pos u hut).2
                      have GG := Lib.hid (sGot (S7.out.kept hbj) u hu18)
                      rw [hgr, decide_eq_true hut] at GG
                      have HLK := Lib.hid fun w1 (hs : SideG tbObj w w1 (ptr18 pb) T [Bes.map mb m g, Bes.blk ba (.int .i64 kk) [.int .i64 t, .slice xa xn xc]]) => MapA.look1 (show MapA w1 mb m g from SideG.head hs) hu18
                      simp only [hgu, Option.getD_some, ahv] at HLK
                      have HHI := Lib.hid (show ∀ id2 ∈ T.ids, (T.hd id2 == u) = inL ((T.want u).take (T.got u)) id2 from fun id2 h => held_iff HOK.out hut h)
                      have hw1000 : (T.want u).length ≤ 32 := HOK.out.wantlen hut
                      generalize T.want u = wu at *
                      generalize T.got u = gn at *
                      replace hsi : IntsAt w (.slice sa sn sc) wu := hsi
                      simp only at hsn
                      have hgl2 : gn < wu.length := hgl
                      obtain ⟨g3, o3, cc3, e3, hlc, hg3, s0⟩ := hsi.spot gn hgl2
                      rw [← hsn] at e3
                      cases e3
                      rw [hget] at s0
                      have N0 : (0 : Int) ≤ (gn : Int) := by omega
                      have N1 : ¬ (sn : Int) ≤ (gn : Int) := by omega
                      have N2 : (gn : Int) ≤ 32 := by omega
                      have N3 : (gn : Int) < (sn : Int) := by omega
                      have N4 : gn ≤ sc := by omega
                      have N5 : decide ((sn : Int) ≤ (gn : Int)) = false := decide_eq_false N1
                      have N6 : decide (sn ≤ gn) = false := decide_eq_false (by omega)
                      have HS0 := Lib.hid s0
                      have HSI := Lib.hid hsi
                      have HWN := Lib.hid (And.intro hsn hw1000)
                      rw [← hsn] at GG
                      have SJ := Lib.hid (S7.out.kept hbj)
                      have HBJ := Lib.hid hbj
                      clear hj hjx hjt hjl hu hut hun hgl hget hgu hsn hsi hgr hu18 hgl2 hlc hw1000 s0 hbj
                      go_upto_region 28 with (go_at_call 16; (with_reducible refine GG.out.mono ?_); rintro e w9 ⟨rfl, hb⟩; have S9 := Lib.hid (SJ.out.kept hb); have HB9 := Lib.hid (HBJ.out.trans (hb.mono HBJ.out.size)); clear hb)
                      have hlk := HLK.out _ S9.out
                      have a0 := (HB9.out.cell (World.block_lt_of_cell? _ _ b0)).trans b0
                      have t0 := ((SideG.below S9.out).cell (World.block_lt_of_cell? _ _ HS0.out)).trans HS0.out
                      clear m0
                      go_upto_region 29 with fail
                      clear hlk
                      refine wp_region_calm0 (by kernel_rfl) (by kernel_rfl) fun M => ?_
                      have ea0 := fun n : In M.w => n.cell (M.cell a0)
                      have et0 := fun n : In M.w => n.cell (M.cell t0)
                      repeat (go_big_quiet_step (fail))
                      refine wpQuiet_nil ?_
                      intro w10 hb10
                      have SA := Lib.hid (S9.out.kept hb10)
                      have HBA := Lib.hid (HB9.out.trans (hb10.mono HB9.out.size))
                      clear ea0 et0 M hb10 a0 t0 S9 HB9
                      go_wp2_with (go_at_call 21; (with_reducible refine (HVW.out _ SA.out).mono ?_); rintro e w11 ⟨uv, Us, rfl, hv, hm, hb⟩; obtain ⟨ua, uc, hvf⟩ := RowsAt.form hv.rows; obtain ⟨un, hun⟩ : ∃ n, Us.length = n := ⟨_, rfl⟩; rw [hun] at hvf; subst hvf; have HUN := Lib.hid hun; have HU := Lib.hid hv; have HUM := Lib.hid hm; have SC := Lib.hid (SA.out.kept hb); have HBC := Lib.hid (HBA.out.trans (hb.mono HBA.out.size)); clear hb hv hm hun)
                      have HUL := Lib.hid (show un ≤ 32 by have h1 := lks_len HUM.out; have h2 := may_len HOK.out.may; have h3 := HUN.out; omega)
                      have hbc := Below.refl w11.heap.size w11
                      go_loopg [146] un (fun kx iv ws => ∃ q : Nat, q ≤ un ∧ un - q ≤ kx ∧ iv = .int .i64 q ∧ Below w11.heap.size w11 ws)
                      case atStart => exact ⟨0, Nat.zero_le _, Nat.le_refl _, rfl, hbc⟩
                      case round =>
                        clear hbc
                        obtain ⟨q, hq, hqx, rfl, hbq⟩ := hrel
                        by_cases hqt : q < un
                        · have HQT := Lib.hid (And.intro hqt hqx)
                          have Q0 : (0 : Int) ≤ (q : Int) := by omega
                          have Q1 : (q : Int) < (un : Int) := by omega
                          have Q2 : (q : Int) ≤ 32 := by have := HUL.out; omega
                          have hql : q < Us.length := by rw [HUN.out]; exact hqt
                          obtain ⟨g4, o4, cc4, e4, _, _, n0, n1, n2⟩ := RowsAt.atL (HU.out.below hbq).rows q hql
                          rw [HUN.out] at e4
                          cases e4
                          obtain ⟨id2, hid2, r1, r2, r3⟩ := lks_at20 HUM.out hql
                          clear r3
                          obtain ⟨⟨zi, zh, za, zc, zw⟩, hz⟩ : ∃ x, Us[q]'hql = x := ⟨_, rfl⟩
                          rw [hz] at n0 n1 n2 r1 r2
                          simp only at n0 n1 n2 r1 r2
                          subst r1
                          obtain ⟨zn, hzn⟩ : ∃ n, zw.length = n := ⟨_, rfl⟩
                          change _ = some (Value.slice za zw.length zc) at n2
                          rw [hzn] at n2
                          have hhi := HHI.out zi hid2
                          rw [← r2] at hhi
                          obtain ⟨bb, hbb⟩ : ∃ bb, inL (wu.take gn) zi = bb := ⟨_, rfl⟩
                          rw [hbb] at hhi
                          have hb9 := (Below.refl wr.heap.size wr).alloc (Nat.le_refl _) (.cells #[.int .i64 zi, .int .i64 zh, .slice za zn zc] 63)
                          have hX := Blk.new wr [.int .i64 zi, .int .i64 zh, .slice za zn zc] 63
                          have d0 := hX.cell 0 rfl
                          have d1 := hX.cell 1 rfl
                          have HBQ := Lib.hid (hbq.trans (hb9.mono hbq.size))
                          have HIN := Lib.hid fun (w' : World) (hb : Below w.heap.size w w') => refIn_any (.slice (some ⟨g3, o3, none⟩) gn sc) (wu.take gn) zi w' ((RowsAt.ints (RowsAt.front (IntsAt.rows HSI.out) gn (by have := HWN.out.1; omega))).below hb) (by rw [List.length_take]; have := HWN.out.2; omega)
                          rw [hbb] at HIN
                          have HWB := Lib.hid (SideG.below ((SC.out.kept hbq).kept hb9))
                          clear hq hqx hqt hql hid2 r2 hz hzn hX hb9 hbb
                          go_upto_region 34 with fail
                          clear n0 n1 n2
                          generalize wr.alloc (.cells #[.int .i64 zi, .int .i64 zh, .slice za zn zc] 63) = W9 at *
                          generalize wr.heap.size = bz at *
                          refine wp_region_calm0 (by kernel_rfl) (by kernel_rfl) fun M => ?_
                          have ed0 := fun n : In M.w => n.cell (M.cell d0)
                          have ed1 := fun n : In M.w => n.cell (M.cell d1)
                          have HI2 := fun n : In M.w => HIN.out n.w (HWB.out.trans ((M.h.trans (n.h.mono M.h.size)).mono HWB.out.size))
                          repeat (go_big_quiet_step ((go_at_call 22; with_reducible exact In.call_same (HI2 _))))
                          refine wpQuiet_nil ?_
                          clear ed0 ed1 HI2 M d0 d1
                          intro w12 hb12
                          have HBE := Lib.hid (HBQ.out.trans (hb12.mono HBQ.out.size))
                          clear hb12
                          go_wp2
                          go_roundg (un - (q + 1))
                          case measure => have := HQT.out; omega
                          case rel => exact ⟨q + 1, by have := HQT.out; omega, Nat.le_refl _, by go_num, HBE.out⟩
                        · have Q1 : ¬ (q : Int) < (un : Int) := by omega
                          have HBF := Lib.hid (HBC.out.trans (hbq.mono HBC.out.size))
                          clear hq hqx hqt hbq
                          go_wp2
                          go_roundg (yn - (j + 1))
                          case measure => have := HJT.out; omega
                          case rel => exact ⟨j + 1, by have := HJT.out; omega, Nat.le_refl _, by go_num, HBF.out⟩
                    · have J1 : ¬ (j : Int) < (yn : Int) := by omega
                      have HBG := Lib.hid (HB7.out.trans (hbj.mono HB7.out.size))
                      clear hj hjx hjt hbj
                      go_wp2
                      go_roundg (vn - (i + 1))
                      case measure => have := HIT.out; omega
                      case rel => exact ⟨i + 1, by have := HIT.out; omega, Nat.le_refl _, by go_num, HBG.out⟩
              · have I1 : ¬ (i : Int) < (vn : Int) := by omega
                have SY := Lib.hid (SideG.sub21 (bs' := [Bes.map mb m g]) (S6.out.kept hbr) (by simp))
                clear hi hix hit hbr
                go_wp2
                go_roundg (l.length - (k + 1))
                case measure => have := HLT.out; omega
                case rel => exact ⟨k + 1, m, T, g, by have := HLT.out; omega, Nat.le_refl _, by go_num, HM.out, HW.out, SY.out⟩
        · have g2 : ¬ (k : Int) < (l.length : Int) := by omega
          have HB := Lib.hid (SideG.below HS.out)
          clear HS HW
          go_wp2_with (go_at_call 7; (with_reducible refine (HAL.out _).mono ?_); rintro e w5 ⟨rfl, hb⟩; have HB2 := Lib.hid (HB.out.trans (hb.mono HB.out.size)); clear hb)
          go_ret
          exact ⟨rfl, HB2.out⟩
end Go.Proofs.Ytieopbeimcmheaa
/- Lists of lists of bytes that come in. -/
namespace Go.Proofs.Ytieopbeimcmheaa
open Go.RowKit Go.ChangeShapes Go.WideShapes Go.Joins Go.Deep

set_option maxRecDepth 100000 in
/-- a slice that lies in a cell -/
theorem open_rows_in {α : Type} [Inhabited α] {H : Type} {enc : TypeId × Value → H} {w : World} {t e : TypeId} {K n0 : Nat} {xs0 : List Value} {z : DataW H × List MemPlace} (cs : α → List Value)
    (ht : Try.prog.underlying t = some (.slice e)) (ce : Try.prog.cellsOf e = K) (hK : 0 < K)
    (elem : ∀ n xs x, xs.length = K → DataW.trod enc Try.prog w 0 (fun _ => true) true n e xs = some x → ∃ y, xs = cs y)
    (hx0 : DataW.trod enc Try.prog w 0 (fun _ => true) true n0 t xs0 = some z) :
    ∃ a len cap l, xs0 = [.slice a len cap] ∧ RowsAt w K cs (.slice a len cap) l ∧ l.length ≤ 9223372036854775807 := by
  obtain ⟨d, p⟩ := z
  rcases open_slice ht hx0 with ⟨hcs, _⟩ | ⟨x, ln, c, m, n, D, Pl, hcs, _, hl, hm, hmm, _, hx⟩
  · exact ⟨none, 0, 0, [], hcs, RowsAt.nil _ _ _, by simp⟩
  · have hmc : m = c := by simpa using hmm
    subst hmc
    rw [ce] at hx
    have each : ∀ i, i < m → ∃ y : α, (∀ j u, (cs y)[j]? = some u → w.cell? ((x.add (i * K)).add j) = some u) ∧ (cs y).length = K := by
      intro i hi
      obtain ⟨xs, h1, h2⟩ := hx i hi
      obtain ⟨_, hlen, hcell⟩ := World.cells?_some h1
      obtain ⟨y, rfl⟩ := elem n xs _ hlen h2
      refine ⟨y, fun j u hu => ?_, hlen⟩
      have := hcell j (by rw [← hlen]; exact (List.getElem?_eq_some_iff.1 hu).1)
      rw [this, hu]
    obtain ⟨q, hq⟩ := choose_lt each
    have hll : ((List.range ln).map q).length = ln := by simp
    refine ⟨some x, ln, m, (List.range ln).map q, hcs, ⟨some x, m, by rw [hll], by rw [hll]; exact hl, fun h0 => ?_⟩, ?_⟩
    · rw [hll] at h0
      obtain ⟨h1, h3⟩ := hq 0 (by omega)
      obtain ⟨u, hu⟩ : ∃ u, (cs (q 0))[0]? = some u := ⟨_, List.getElem?_eq_getElem (by omega)⟩
      have h4 := h1 0 u hu
      obtain ⟨b, off, spot⟩ := x
      have hspot : spot = none := by simpa [Addr.add] using World.cell?_spot h4
      subst hspot
      rw [add_plain, add_plain] at h4
      refine ⟨b, off, rfl, World.block_lt_of_cell? _ _ h4, fun j y hj i u hu => ?_⟩
      have hjl : j < ln := by rw [← hll]; exact (List.getElem?_eq_some_iff.1 hj).1
      have hyq : q j = y := by simpa [hjl] using hj
      rw [← hyq] at hu
      have := (hq j (by omega)).1 i u hu
      rw [add_plain, add_plain] at this
      exact this
    · rw [hll]
      unfold maxLen at hm
      omega
end Go.Proofs.Ytieopbeimcmheaa
