/- Stage 24's law DagSafe: the walk. (wip/gen/gen24S.py writes this text.) -/
import Derived.Test.YthchkhgimnchcaaDgL
namespace Go.Proofs.Ythchkhgimnchcaa
open Go.RowKit

/-- what the law has at hand among a store's tasks -/
structure SfW (F : Nat → Prop) (w0 ws : World) (B : Nat) (p mb : Nat) (T : List Tk) (nx : Int → List Int) (g : Int → Option Nat) (Fm : Int → Nat → Prop) (mw m : Nat) (wg : Int → Option Int) (vk : Value) (V : List Tk) : Prop where
  D : DagP F ws p mb 64 T nx g Fm
  M : MapI ws mw m wg
  rows : OwnR ws B 43 14 csTk vk V
  each : ∀ x ∈ V, OwnI ws B x.sp.v x.sp.aft
  mB : mw < B
  mF : ¬ F mw
  m0 : w0.heap.size ≤ mw
  b : Below w0.heap.size w0 ws
section
variable {F : Nat → Prop} {w0 ws ws' : World} {B p mb : Nat} {T : List Tk} {nx : Int → List Int} {g : Int → Option Nat} {Fm : Int → Nat → Prop} {mw m m' : Nat} {wg wg' : Int → Option Int} {vk : Value} {V : List Tk}
theorem SfW.kept (h : SfW F w0 ws B p mb T nx g Fm mw m wg vk V) (hb : Below ws.heap.size ws ws') : SfW F w0 ws' B p mb T nx g Fm mw m wg vk V :=
  ⟨h.D.kept hb, h.M.kept hb, OwnR.kept h.rows hb, fun x hx => OwnR.kept (h.each x hx) hb, h.mB, h.mF, h.m0, h.b.trans (hb.mono h.b.size)⟩
theorem SfW.put (h : SfW F w0 ws B p mb T nx g Fm mw m wg vk V) (hM : MapI ws' mw m' wg') (hg : ws.grownBy ws' (some mw)) : SfW F w0 ws' B p mb T nx g Fm mw m' wg' vk V := by
  have ho : Only (fun k => k = mw) ws ws' := Only.grown hg fun _ e => (Option.some.inj e).symm
  exact ⟨h.D.same hg.size fun k hk => ho.block k (h.D.lt k hk) fun e => h.mF (e ▸ hk), hM, OwnR.only23 h.rows ho (fun k hk e => by have h1 := (World.ownsRow.lt h.rows k hk).1; have h2 := h.mB; omega), fun x hx => OwnR.only23 (h.each x hx) ho (fun k hk e => by have h1 := (World.ownsRow.lt (h.each x hx) k hk).1; have h2 := h.mB; omega), h.mB, h.mF, h.m0,
    h.b.grown hg h.b.size fun k e => by injection e with e; rw [← e]; exact h.m0⟩
end
set_option maxHeartbeats 32000000 in
set_option maxRecDepth 100000 in
theorem dagSafe_any (vl : Value) (l : List Da) (w : World) (hl : DasAt w vl l) (hI : ∀ x ∈ l, I64 x.id ∧ ∀ y ∈ x.batch, y.In) :
    Calls Try.prog 3 #[vl] w fun e w' => e = .returned (.bool true) ∧ Below w.heap.size w w' := by
  have GAL := Lib.hid fun w' => dAlive_any w'
  have GF0 := refFew24_any vl l 40 w hl (by omega)
  obtain ⟨la, lc, rfl⟩ := RowsAt.form hl.rows
  by_cases hf : fewDa l 40 = true
  · rw [hf] at GF0
    have GF := Lib.hid GF0
    have GN := Lib.hid fun w' => dNew_any 64 w'
    have GE := Lib.hid fun s w' => refEnded24_any s w'
    have hlen : l.length ≤ 40 := by
      unfold fewDa at hf
      simp only [Bool.and_eq_true, decide_eq_true_eq] at hf
      omega
    have hb12 : ∀ x ∈ l, x.batch.length ≤ 12 := fun x hx => by
      unfold fewDa at hf
      simp only [Bool.and_eq_true, decide_eq_true_eq] at hf
      have h1 := List.all_eq_true.1 hf.2 x hx
      unfold fewS at h1
      simp only [Bool.and_eq_true, decide_eq_true_eq] at h1
      omega
    have HL := Lib.hid hl
    have HI := Lib.hid hI
    have HB12 := Lib.hid hb12
    have HLEN := Lib.hid hlen
    have l0 : (0 : Int) ≤ (l.length : Int) := by omega
    have l2 : (l.length : Int) ≤ 40 := by omega
    have hmk : ∀ w : World, (Instr.makeMap 27 none).run Try.prog w = .ok (.map (some w.heap.size)) (w.alloc (.map #[] 0)) := fun w => by kernel_rfl
    clear hl hI GF0 hf hb12 hlen
    go_enter Try.func3, Try.ntmps3
    go_upto_region 4 with (first
      | (go_at_call 5; (with_reducible refine GF.out.mono ?_); rintro e w1 ⟨rfl, hb⟩; have HB1 := Lib.hid hb; clear hb)
      | (go_at_call 7; (with_reducible refine (GN.out _).mono ?_); rintro e w2 ⟨p, mb, F0, nx0, g0, Fm0, rfl, q1, q2, q3⟩; rw [show clipD 64 = 64 from rfl] at q1; have HD0 := Lib.hid q1; have HF0 := Lib.hid (fun k hk => Nat.le_trans HB1.out.size (q2 k hk)); have HB2 := Lib.hid (HB1.out.trans (q3.mono HB1.out.size)); clear q1 q2 q3))
    have hmk2 := hmk w2
    have hal := (Below.refl w2.heap.size w2).alloc (Nat.le_refl _) (.map #[] 0)
    have HM3 := Lib.hid (MapI.new w2)
    have HD3 := Lib.hid (HD0.out.kept hal)
    have HB3 := Lib.hid (HB2.out.trans (hal.mono HB2.out.size))
    have HMW := Lib.hid (And.intro (fun e => by have := HD0.out.lt _ e; omega : ¬ F0 w2.heap.size) HB2.out.size)
    clear hal hmk
    go_wp2
    clear hmk2
    generalize w2.alloc (.map #[] 0) = w3 at *
    generalize w2.heap.size = mw at *
    go_loopg [24] l.length (fun kx iv ws => ∃ (k : Nat) (T : List Tk) (F : Nat → Prop) (nx : Int → List Int) (g : Int → Option Nat) (Fm : Int → Nat → Prop) (m : Nat), k ≤ l.length ∧ l.length - k ≤ kx ∧ iv = .int .i64 k ∧ Hid (DagP F ws p mb 64 T nx g Fm) ∧ Hid (MapI ws mw m fun n => if n ∈ idsK T then some (sgT T n) else none) ∧ Hid (m ≤ 64 * k) ∧ Hid (∀ j, F j → w.heap.size ≤ j) ∧ Hid (¬ F mw ∧ w.heap.size ≤ mw) ∧ Hid (Below w.heap.size w ws))
    case atStart => exact ⟨0, [], F0, nx0, g0, Fm0, 0, Nat.zero_le _, Nat.le_refl _, rfl, HD3.out, HM3.out, Nat.le_refl _, HF0.out, HMW.out, HB3.out⟩
    case round =>
      clear HD0 HD3 HM3 HF0 HMW HB1 HB2 HB3
      obtain ⟨k, T, F, nx, g, Fm, m, hk, hkx, rfl, HD, HM, HMB, HF, HMW, HB⟩ := hrel
      by_cases hlt : k < l.length
      · obtain ⟨g0', o0, cc, kind, aid, aa, ac, b, he, e, hc, p0, p1, p2, hs⟩ := (HL.out.kept HB.out).spot k hlt
        cases e
        have hxm := List.getElem_mem hlt
        have hx := HI.out _ hxm
        have hx12 := HB12.out _ hxm
        have hxs := HL.out.each _ hxm
        rw [he] at hx hx12 hxs
        dsimp only at hx hx12
        have k0 : (0 : Int) ≤ (k : Int) := by omega
        have k1 : (k : Int) < (l.length : Int) := by omega
        have hal := (Below.refl wr.heap.size wr).alloc (Nat.le_refl _) (.cells #[.int .i64 kind, .int .i64 aid, .slice aa b.length ac] 30)
        have hX := Blk.new wr [.int .i64 kind, .int .i64 aid, .slice aa b.length ac] 30
        have x0 := hX.cell 0 rfl
        have x1 := hX.cell 1 rfl
        have x2 := hX.cell 2 rfl
        have GD0 := dDo_any (wr.alloc (.cells #[.int .i64 kind, .int .i64 aid, .slice aa b.length ac] 30)) (HD.out.kept hal) ⟨kind, aid, aa, ac, b⟩ hx.1 (fun w' ho => hxs.kept ((HB.out.trans (hal.mono HB.out.size)).trans (ho.below HF.out (Nat.le_trans HB.out.size hal.size)))) (by show b.length ≤ 30; omega) (fun y hy => ⟨(hx.2 y hy).id, fun n hn => (hx.2 y hy).aft n hn⟩) (fun y hy => (hx.2 y hy).len)
        have hkp := act_keeps HD.out.wf 64 ⟨kind, aid, aa, ac, b⟩
        dsimp only at GD0
        generalize actDg 64 T ⟨kind, aid, aa, ac, b⟩ = r at *
        obtain ⟨T', l', q⟩ := r
        dsimp only at hkp
        have GD := Lib.hid GD0
        have HKP := Lib.hid hkp
        have HBa := Lib.hid (HB.out.trans (hal.mono HB.out.size))
        have HMa := Lib.hid (HM.out.kept hal)
        have HWF := Lib.hid HD.out.wf
        have HLT := Lib.hid (And.intro hlt hkx)
        clear hxm hx hx12 hxs hX GD0 hkp hal he hs hc hlt hkx hk HD HM HB
        go_upto_region 10 with (go_at_call 8; (with_reducible refine GD.out.mono ?_); rintro e w4 ⟨v, F', nx', g', Fm', rfl, q1, q2, q3, q4⟩; have HD4 := Lib.hid (show DagP F' w4 p mb 64 T' nx' g' Fm' from q3); have HM4 := Lib.hid (HMa.out.same (q4.only.block mw HMa.out.lt HMW.out.1)); have HF4 := Lib.hid (q4.from_ HF.out HBa.out.size); have HW4 := Lib.hid (And.intro (q4.off HMa.out.lt HMW.out.1) HMW.out.2); have HB4 := Lib.hid (HBa.out.trans (q4.only.below HF.out HBa.out.size)); clear q1 q2 q3 q4)
        have HML := Lib.hid HM4.out.lt
        clear HMa HBa HF HMW x0 x1 x2 p0 p1 p2 GD
        have GV := Lib.hid (dView_any w4 HD4.out)
        go_wp2_with (go_at_call 9; (with_reducible refine GV.out.mono ?_); rintro e w5 ⟨vk, V, rfl, q1, q2, q3, q4⟩; obtain ⟨ka, kc, e⟩ := RowsAt.form (OwnR.rows csTk_len q1); have HVL := Lib.hid (plK_len q3); have HS5 := Lib.hid (show SfW F' w w5 w4.heap.size p mb T' nx' g' Fm' mw m (wasG T T' 0) vk V from ⟨HD4.out.kept q4, by rw [wasG_zero]; exact HM4.out.kept q4, q1, q2, HML.out, HW4.out.1, HW4.out.2, HB4.out.trans (q4.mono HB4.out.size)⟩); subst e; have HV := Lib.hid q3; clear q1 q2 q3 q4)
        have HT64 := Lib.hid (show T'.length ≤ 64 by have := HD4.out.fit; omega)
        have HWF4 := Lib.hid HD4.out.wf
        have v2 : (V.length : Int) ≤ 64 := by have := HVL.out; have := HT64.out; omega
        clear HD4 HM4 HB4 GV HML
        go_loopg [7, 8, 34] V.length (fun jx pv rv iv ws => ∃ (j m1 : Nat), j ≤ V.length ∧ V.length - j ≤ jx ∧ iv = .int .i64 j ∧ pv = .int .i64 (cntS T' 1 j) ∧ rv = .int .i64 (cntS T' 2 j) ∧ Hid (m1 ≤ 64 * k + j) ∧ Hid (SfW F' w ws w4.heap.size p mb T' nx' g' Fm' mw m1 (wasG T T' j) (.slice ka V.length kc) V))
        case atStart => exact ⟨0, m, Nat.zero_le _, Nat.le_refl _, rfl, rfl, rfl, by have := HMB.out; omega, HS5.out⟩
        case round =>
          clear HS5
          obtain ⟨j, m1, hj, hjx, rfl, rfl, rfl, HM1, HS⟩ := hrel
          by_cases hjl : j < V.length
          · obtain ⟨g1, o1, c1', id, prio, sk, ge, fx, fy, tx, ty, a, c, l1, s, seq, si, lo, ba, bc, bu, he, e, hlc, p0, p1, p2, p3, p4, p5, p6, p7, p8, p9, p10, p11, p12, p13⟩ := tks_spot (OwnR.rows csTk_len HS.out.rows) j hjl
            cases e
            have HJT := Lib.hid (And.intro hjl hjx)
            have j0 : (0 : Int) ≤ (j : Int) := by omega
            have j1 : (j : Int) < (V.length : Int) := by omega
            have hjT : j < T'.length := by have := HVL.out; omega
            have hpl : plK V[j] = plK T'[j] := by
              have h1 : (V.map plK)[j]'(by rw [List.length_map]; exact hjl) = (T'.map plK)[j]'(by rw [List.length_map]; exact hjT) := by simp only [HV.out]
              simpa using h1
            have hidE : T'[j].sp.id = id := by have h1 := congrArg (fun t : Tk => t.sp.id) hpl; rw [he] at h1; exact h1.symm
            have hstE : T'[j].st = s := by have h1 := congrArg (fun t : Tk => t.st) hpl; rw [he] at h1; exact h1.symm
            have hafE : T'[j].sp.aft = l1 := by have h1 := congrArg (fun t : Tk => t.sp.aft) hpl; rw [he] at h1; exact h1.symm
            have htT : T'[j] ∈ T' := List.getElem_mem hjT
            have hidm : id ∈ idsK T' := idsK_mem.2 ⟨_, htT, hidE⟩
            have hsg : sgT T' id = s := by rw [← hidE, sg_at HWF4.out.nodup htT, hstE]
            have hsts := HWF4.out.sts id hidm
            rw [hsg] at hsts
            have hi64 := (HWF4.out.id64 hidm).1
            have hc1 := cntS_step T' 1 j hjT
            have hc2 := cntS_step T' 2 j hjT
            rw [hstE] at hc1 hc2
            have hb1 := cntS_bd T' 1 j
            have hb2 := cntS_bd T' 2 j
            have hwg := wasG_step T T' HWF4.out.nodup j hjT
            rw [hidE, hstE] at hwg
            have hpair := fun y (hy : y ∈ l1) => HWF4.out.pairs htT (a := y) (by rw [hafE]; exact hy)
            rw [hstE] at hpair
            have hpre := fun y (hy : y ∈ l1) => (HWF4.out.id64 (HWF4.out.pre y id ⟨_, htT, hidE, by rw [hafE]; exact hy⟩)).1
            have hl8 : l1.length ≤ 8 := by rw [← hafE]; exact HWF4.out.aft8 htT
            have hwait : s = 1 → waitsT T' id ≠ 0 := fun e1 e2 => by
              obtain ⟨y, h1, h2⟩ := HWF4.out.wait id hidm (by rw [hsg]; exact e1)
              exact h2 ((waitsT_zero HWF4.out.nodup hidm).1 e2 y h1)
            have hold : endS ((wasG T T' j id).getD 0) = true → (wasG T T' j id).getD 0 = s := fun e1 => by
              have hno : id ∉ (idsK T').take j := fun hm => by
                have h3 := HWF4.out.nodup
                have hl5 : (idsK T').length = T'.length := List.length_map _
                have h4 : (idsK T')[j]'(by omega) = id := by simp [idsK, hidE]
                rw [← List.take_append_drop j (idsK T'), List.drop_eq_getElem_cons (by omega)] at h3
                exact (List.nodup_append.1 h3).2.2 _ hm _ List.mem_cons_self h4.symm
              unfold wasG at e1 ⊢
              rw [if_neg hno] at e1 ⊢
              by_cases h5 : id ∈ idsK T
              · rw [if_pos h5] at e1 ⊢
                have h6 := HKP.out.2 id e1
                rw [hsg] at h6
                exact h6.symm
              · rw [if_neg h5] at e1
                cases e1
            have hlk := HS.out.M.look1 hi64
            have hsp := HS.out.each _ (List.getElem_mem hjl)
            rw [he] at hsp
            have hal := (Below.refl wr.heap.size wr).alloc (Nat.le_refl _) (.cells #[.int .i64 id, .int .i64 prio, .int .u64 sk, .int .u64 ge, .int .i64 fx, .int .i64 fy, .int .i64 tx, .int .i64 ty, .slice a l1.length c, .int .i64 s, .int .i64 seq, .int .i64 si, .int .i64 lo, .slice ba bu.length bc] 43)
            have hX := Blk.new wr [.int .i64 id, .int .i64 prio, .int .u64 sk, .int .u64 ge, .int .i64 fx, .int .i64 fy, .int .i64 tx, .int .i64 ty, .slice a l1.length c, .int .i64 s, .int .i64 seq, .int .i64 si, .int .i64 lo, .slice ba bu.length bc] 43
            have hlk2 := (HS.out.kept hal).M.look1 hi64
            obtain ⟨old, hold0⟩ : ∃ old, (wasG T T' j id).getD 0 = old := ⟨_, rfl⟩
            rw [hold0] at hold hlk2
            have HX := Lib.hid hX
            have HS2 := Lib.hid (HS.out.kept hal)
            have x0 := hX.cell 0 rfl
            have x9 := hX.cell 9 rfl
            obtain ⟨w7, hrun, hm7, hg7⟩ := (HS.out.kept hal).M.put (by have := HM1.out; have := HLEN.out; have := HLT.out; omega) hi64 s (by rcases hsts with h | h | h | h | h <;> subst h <;> unfold I64 <;> omega)
            have HS7 := Lib.hid ((HS.out.kept hal).put hm7 hg7)
            have hbm : wr.heap.size ≠ mw := fun e => by have := HS.out.M.lt; omega
            have HX7 := Lib.hid (hX.same (hg7.block wr.heap.size (by simp) (fun e => hbm (by injection e))))
            rw [← hwg] at HS7
            have hm1' : (if (wasG T T' j id).isSome = true then m1 else m1 + 1) ≤ 64 * k + (j + 1) := by have := HM1.out; split <;> omega
            generalize (if (wasG T T' j id).isSome = true then m1 else m1 + 1) = m2 at *
            have HM2 := Lib.hid hm1'
            have HC1 := Lib.hid hc1
            have HC2 := Lib.hid hc2
            have HPAIR := Lib.hid hpair
            have HPRE := Lib.hid hpre
            have HWAIT := Lib.hid hwait
            have GW := Lib.hid fun w' (h : DagP F' w' p mb 64 T' nx' g' Fm') => dWaits_any w' h id hi64
            have GS := Lib.hid fun y w' (h : DagP F' w' p mb 64 T' nx' g' Fm') (hy : I64 y) => dStatus_any w' h y hy
            generalize waitsT T' id = wv at *
            generalize cntS T' 1 j = n1 at *
            generalize cntS T' 2 j = n2 at *
            have n10 : 0 ≤ n1 ∧ n1 ≤ 64 := by omega
            have n20 : 0 ≤ n2 ∧ n2 ≤ 64 := by omega
            have l8 : (l1.length : Int) ≤ 8 := by omega
            have hsp7 := HS7.out.each _ (List.getElem_mem hjl)
            rw [he] at hsp7
            have HSP7 := Lib.hid (show OwnI w7 w4.heap.size (.slice a l1.length c) l1 from hsp7)
            clear hsp7 he hlc hjl hjx hj hjT hpl hidE hstE hafE htT hidm hsg hi64 hc1 hc2 hb1 hb2 hwg hpair hpre hl8 hwait hlk hsp hal hX hold0 hm7 hm1' hbm
            by_cases heo : endS old = true
            · have heq := (hold heo).symm
              subst heq
              have hss : s = 4 ∨ s = 5 ∨ s = 6 := endS_iff.1 heo
              have GEO := Lib.hid (GE.out s (wr.alloc (.cells #[.int .i64 id, .int .i64 prio, .int .u64 sk, .int .u64 ge, .int .i64 fx, .int .i64 fy, .int .i64 tx, .int .i64 ty, .slice a l1.length c, .int .i64 s, .int .i64 seq, .int .i64 si, .int .i64 lo, .slice ba bu.length bc] 43)))
              rw [heo] at GEO
              clear hold heo hsts
              rcases hss with rfl | rfl | rfl
              · go_upto_region 18 with (go_at_call 10; (with_reducible refine GEO.out.mono ?_); rintro e w6 ⟨rfl, rfl⟩)
                clear hrun hlk2 x0 x9 p0 p1 p2 p3 p4 p5 p6 p7 p8 p9 p10 p11 p12 p13
                have y0 := HX7.out.cell 0 rfl
                have y8 := HX7.out.cell 8 rfl
                go_wp2
                clear y8
                go_loopg [61] l1.length (fun ix iv ws => ∃ i : Nat, i ≤ l1.length ∧ l1.length - i ≤ ix ∧ iv = .int .i64 i ∧ w7 = ws)
                case atStart => exact ⟨0, Nat.zero_le _, Nat.le_refl _, rfl, rfl⟩
                case round =>
                  obtain ⟨i, hi2, hix, rfl, rfl⟩ := hrel
                  by_cases hil : i < l1.length
                  · obtain ⟨g5, o5, c5, e, -, -, q0⟩ := (OwnI.ints HSP7.out).spot i hil
                    simp only [Value.slice.injEq] at e
                    obtain ⟨rfl, -, rfl⟩ := e
                    have HIT := Lib.hid (And.intro hil hix)
                    have i0 : (0 : Int) ≤ (i : Int) := by omega
                    have i1 : (i : Int) < (l1.length : Int) := by omega
                    have hpr := HPAIR.out _ (List.getElem_mem hil)
                    have GS1 := Lib.hid (GS.out _ w7 HS7.out.D (HPRE.out _ (List.getElem_mem hil)))
                    generalize l1[i]'hil = y at *
                    generalize sgT T' y = pp at *
                    have hpp : pp = 4 := by omega
                    clear hpr hil hix hi2
                    subst hpp
                    all_goals
                      go_wp2_with (go_at_call 11; (with_reducible refine GS1.out.mono ?_); rintro e w8 ⟨rfl, rfl⟩)
                      go_roundg (l1.length - (i + 1))
                      case measure => have := HIT.out; omega
                      case rel => exact ⟨i + 1, by have := HIT.out; omega, Nat.le_refl _, by go_num, rfl⟩
                  · have hie : i = l1.length := by omega
                    subst hie
                    clear hil hix hi2
                    go_wp2
                    go_roundg (V.length - (j + 1))
                    case measure => have := HJT.out; omega
                    case rel => exact ⟨j + 1, m2, by have := HJT.out; omega, Nat.le_refl _, by go_num, by rw [HC1.out]; rfl, by rw [HC2.out]; rfl, HM2.out, HS7.out⟩
              · go_upto_region 18 with (go_at_call 10; (with_reducible refine GEO.out.mono ?_); rintro e w6 ⟨rfl, rfl⟩)
                clear hrun hlk2 x0 x9 p0 p1 p2 p3 p4 p5 p6 p7 p8 p9 p10 p11 p12 p13
                have y0 := HX7.out.cell 0 rfl
                have y8 := HX7.out.cell 8 rfl
                go_wp2
                clear y8
                go_loopg [61] l1.length (fun ix iv ws => ∃ i : Nat, i ≤ l1.length ∧ l1.length - i ≤ ix ∧ iv = .int .i64 i ∧ w7 = ws)
                case atStart => exact ⟨0, Nat.zero_le _, Nat.le_refl _, rfl, rfl⟩
                case round =>
                  obtain ⟨i, hi2, hix, rfl, rfl⟩ := hrel
                  by_cases hil : i < l1.length
                  · obtain ⟨g5, o5, c5, e, -, -, q0⟩ := (OwnI.ints HSP7.out).spot i hil
                    simp only [Value.slice.injEq] at e
                    obtain ⟨rfl, -, rfl⟩ := e
                    have HIT := Lib.hid (And.intro hil hix)
                    have i0 : (0 : Int) ≤ (i : Int) := by omega
                    have i1 : (i : Int) < (l1.length : Int) := by omega
                    have hpr := HPAIR.out _ (List.getElem_mem hil)
                    have GS1 := Lib.hid (GS.out _ w7 HS7.out.D (HPRE.out _ (List.getElem_mem hil)))
                    generalize l1[i]'hil = y at *
                    generalize sgT T' y = pp at *
                    have hpp : pp = 4 := by omega
                    clear hpr hil hix hi2
                    subst hpp
                    all_goals
                      go_wp2_with (go_at_call 11; (with_reducible refine GS1.out.mono ?_); rintro e w8 ⟨rfl, rfl⟩)
                      go_roundg (l1.length - (i + 1))
                      case measure => have := HIT.out; omega
                      case rel => exact ⟨i + 1, by have := HIT.out; omega, Nat.le_refl _, by go_num, rfl⟩
                  · have hie : i = l1.length := by omega
                    subst hie
                    clear hil hix hi2
                    go_wp2
                    go_roundg (V.length - (j + 1))
                    case measure => have := HJT.out; omega
                    case rel => exact ⟨j + 1, m2, by have := HJT.out; omega, Nat.le_refl _, by go_num, by rw [HC1.out]; rfl, by rw [HC2.out]; rfl, HM2.out, HS7.out⟩
              · go_upto_region 18 with (go_at_call 10; (with_reducible refine GEO.out.mono ?_); rintro e w6 ⟨rfl, rfl⟩)
                clear hrun hlk2 x0 x9 p0 p1 p2 p3 p4 p5 p6 p7 p8 p9 p10 p11 p12 p13
                have y0 := HX7.out.cell 0 rfl
                have y8 := HX7.out.cell 8 rfl
                go_wp2
                clear y8
                go_loopg [61] l1.length (fun ix iv ws => ∃ i : Nat, i ≤ l1.length ∧ l1.length - i ≤ ix ∧ iv = .int .i64 i ∧ w7 = ws)
                case atStart => exact ⟨0, Nat.zero_le _, Nat.le_refl _, rfl, rfl⟩
                case round =>
                  obtain ⟨i, hi2, hix, rfl, rfl⟩ := hrel
                  by_cases hil : i < l1.length
                  · obtain ⟨g5, o5, c5, e, -, -, q0⟩ := (OwnI.ints HSP7.out).spot i hil
                    simp only [Value.slice.injEq] at e
                    obtain ⟨rfl, -, rfl⟩ := e
                    have HIT := Lib.hid (And.intro hil hix)
                    have i0 : (0 : Int) ≤ (i : Int) := by omega
                    have i1 : (i : Int) < (l1.length : Int) := by omega
                    have hpr := HPAIR.out _ (List.getElem_mem hil)
                    have GS1 := Lib.hid (GS.out _ w7 HS7.out.D (HPRE.out _ (List.getElem_mem hil)))
                    generalize l1[i]'hil = y at *
                    generalize sgT T' y = pp at *
                    have hpp : pp = 4 ∨ pp = 1 ∨ pp = 2 ∨ pp = 5 ∨ pp = 6 := by omega
                    clear hpr hil hix hi2
                    rcases hpp with rfl | rfl | rfl | rfl | rfl
                    all_goals
                      go_wp2_with (go_at_call 11; (with_reducible refine GS1.out.mono ?_); rintro e w8 ⟨rfl, rfl⟩)
                      go_roundg (l1.length - (i + 1))
                      case measure => have := HIT.out; omega
                      case rel => exact ⟨i + 1, by have := HIT.out; omega, Nat.le_refl _, by go_num, rfl⟩
                  · have hie : i = l1.length := by omega
                    subst hie
                    clear hil hix hi2
                    go_wp2
                    go_roundg (V.length - (j + 1))
                    case measure => have := HJT.out; omega
                    case rel => exact ⟨j + 1, m2, by have := HJT.out; omega, Nat.le_refl _, by go_num, by rw [HC1.out]; rfl, by rw [HC2.out]; rfl, HM2.out, HS7.out⟩
            · have heo2 : endS old = false := by simpa using heo
              have hss := hsts
              have GEO := Lib.hid (GE.out old (wr.alloc (.cells #[.int .i64 id, .int .i64 prio, .int .u64 sk, .int .u64 ge, .int .i64 fx, .int .i64 fy, .int .i64 tx, .int .i64 ty, .slice a l1.length c, .int .i64 s, .int .i64 seq, .int .i64 si, .int .i64 lo, .slice ba bu.length bc] 43)))
              rw [heo2] at GEO
              clear hold heo heo2 hsts
              rcases hss with rfl | rfl | rfl | rfl | rfl
              · go_upto_region 18 with (go_at_call 10; (with_reducible refine GEO.out.mono ?_); rintro e w6 ⟨rfl, rfl⟩)
                clear hrun hlk2 x0 x9 p0 p1 p2 p3 p4 p5 p6 p7 p8 p9 p10 p11 p12 p13
                have y0 := HX7.out.cell 0 rfl
                have y8 := HX7.out.cell 8 rfl
                go_wp2
                clear y8
                go_loopg [61] l1.length (fun ix iv ws => ∃ i : Nat, i ≤ l1.length ∧ l1.length - i ≤ ix ∧ iv = .int .i64 i ∧ w7 = ws)
                case atStart => exact ⟨0, Nat.zero_le _, Nat.le_refl _, rfl, rfl⟩
                case round =>
                  obtain ⟨i, hi2, hix, rfl, rfl⟩ := hrel
                  by_cases hil : i < l1.length
                  · obtain ⟨g5, o5, c5, e, -, -, q0⟩ := (OwnI.ints HSP7.out).spot i hil
                    simp only [Value.slice.injEq] at e
                    obtain ⟨rfl, -, rfl⟩ := e
                    have HIT := Lib.hid (And.intro hil hix)
                    have i0 : (0 : Int) ≤ (i : Int) := by omega
                    have i1 : (i : Int) < (l1.length : Int) := by omega
                    have hpr := HPAIR.out _ (List.getElem_mem hil)
                    have GS1 := Lib.hid (GS.out _ w7 HS7.out.D (HPRE.out _ (List.getElem_mem hil)))
                    generalize l1[i]'hil = y at *
                    generalize sgT T' y = pp at *
                    have hpp : pp = 4 ∨ pp = 1 ∨ pp = 2 := by omega
                    clear hpr hil hix hi2
                    rcases hpp with rfl | rfl | rfl
                    all_goals
                      go_wp2_with (go_at_call 11; (with_reducible refine GS1.out.mono ?_); rintro e w8 ⟨rfl, rfl⟩)
                      go_roundg (l1.length - (i + 1))
                      case measure => have := HIT.out; omega
                      case rel => exact ⟨i + 1, by have := HIT.out; omega, Nat.le_refl _, by go_num, rfl⟩
                  · have hie : i = l1.length := by omega
                    subst hie
                    clear hil hix hi2
                    have wne : (wv == 0) = false := beq_noI (HWAIT.out trivial)
                    have GW1 := Lib.hid (GW.out w7 HS7.out.D)
                    go_wp2_with (go_at_call 12; (with_reducible refine GW1.out.mono ?_); rintro e w8 ⟨rfl, rfl⟩)
                    go_roundg (V.length - (j + 1))
                    case measure => have := HJT.out; omega
                    case rel => exact ⟨j + 1, m2, by have := HJT.out; omega, Nat.le_refl _, by go_num, by rw [HC1.out]; rfl, by rw [HC2.out]; rfl, HM2.out, HS7.out⟩
              · go_upto_region 18 with (go_at_call 10; (with_reducible refine GEO.out.mono ?_); rintro e w6 ⟨rfl, rfl⟩)
                clear hrun hlk2 x0 x9 p0 p1 p2 p3 p4 p5 p6 p7 p8 p9 p10 p11 p12 p13
                have y0 := HX7.out.cell 0 rfl
                have y8 := HX7.out.cell 8 rfl
                go_wp2
                clear y8
                go_loopg [61] l1.length (fun ix iv ws => ∃ i : Nat, i ≤ l1.length ∧ l1.length - i ≤ ix ∧ iv = .int .i64 i ∧ w7 = ws)
                case atStart => exact ⟨0, Nat.zero_le _, Nat.le_refl _, rfl, rfl⟩
                case round =>
                  obtain ⟨i, hi2, hix, rfl, rfl⟩ := hrel
                  by_cases hil : i < l1.length
                  · obtain ⟨g5, o5, c5, e, -, -, q0⟩ := (OwnI.ints HSP7.out).spot i hil
                    simp only [Value.slice.injEq] at e
                    obtain ⟨rfl, -, rfl⟩ := e
                    have HIT := Lib.hid (And.intro hil hix)
                    have i0 : (0 : Int) ≤ (i : Int) := by omega
                    have i1 : (i : Int) < (l1.length : Int) := by omega
                    have hpr := HPAIR.out _ (List.getElem_mem hil)
                    have GS1 := Lib.hid (GS.out _ w7 HS7.out.D (HPRE.out _ (List.getElem_mem hil)))
                    generalize l1[i]'hil = y at *
                    generalize sgT T' y = pp at *
                    have hpp : pp = 4 := by omega
                    clear hpr hil hix hi2
                    subst hpp
                    all_goals
                      go_wp2_with (go_at_call 11; (with_reducible refine GS1.out.mono ?_); rintro e w8 ⟨rfl, rfl⟩)
                      go_roundg (l1.length - (i + 1))
                      case measure => have := HIT.out; omega
                      case rel => exact ⟨i + 1, by have := HIT.out; omega, Nat.le_refl _, by go_num, rfl⟩
                  · have hie : i = l1.length := by omega
                    subst hie
                    clear hil hix hi2
                    go_wp2
                    go_roundg (V.length - (j + 1))
                    case measure => have := HJT.out; omega
                    case rel => exact ⟨j + 1, m2, by have := HJT.out; omega, Nat.le_refl _, by go_num, by rw [HC1.out]; rfl, by rw [HC2.out]; rfl, HM2.out, HS7.out⟩
              · go_upto_region 18 with (go_at_call 10; (with_reducible refine GEO.out.mono ?_); rintro e w6 ⟨rfl, rfl⟩)
                clear hrun hlk2 x0 x9 p0 p1 p2 p3 p4 p5 p6 p7 p8 p9 p10 p11 p12 p13
                have y0 := HX7.out.cell 0 rfl
                have y8 := HX7.out.cell 8 rfl
                go_wp2
                clear y8
                go_loopg [61] l1.length (fun ix iv ws => ∃ i : Nat, i ≤ l1.length ∧ l1.length - i ≤ ix ∧ iv = .int .i64 i ∧ w7 = ws)
                case atStart => exact ⟨0, Nat.zero_le _, Nat.le_refl _, rfl, rfl⟩
                case round =>
                  obtain ⟨i, hi2, hix, rfl, rfl⟩ := hrel
                  by_cases hil : i < l1.length
                  · obtain ⟨g5, o5, c5, e, -, -, q0⟩ := (OwnI.ints HSP7.out).spot i hil
                    simp only [Value.slice.injEq] at e
                    obtain ⟨rfl, -, rfl⟩ := e
                    have HIT := Lib.hid (And.intro hil hix)
                    have i0 : (0 : Int) ≤ (i : Int) := by omega
                    have i1 : (i : Int) < (l1.length : Int) := by omega
                    have hpr := HPAIR.out _ (List.getElem_mem hil)
                    have GS1 := Lib.hid (GS.out _ w7 HS7.out.D (HPRE.out _ (List.getElem_mem hil)))
                    generalize l1[i]'hil = y at *
                    generalize sgT T' y = pp at *
                    have hpp : pp = 4 := by omega
                    clear hpr hil hix hi2
                    subst hpp
                    all_goals
                      go_wp2_with (go_at_call 11; (with_reducible refine GS1.out.mono ?_); rintro e w8 ⟨rfl, rfl⟩)
                      go_roundg (l1.length - (i + 1))
                      case measure => have := HIT.out; omega
                      case rel => exact ⟨i + 1, by have := HIT.out; omega, Nat.le_refl _, by go_num, rfl⟩
                  · have hie : i = l1.length := by omega
                    subst hie
                    clear hil hix hi2
                    go_wp2
                    go_roundg (V.length - (j + 1))
                    case measure => have := HJT.out; omega
                    case rel => exact ⟨j + 1, m2, by have := HJT.out; omega, Nat.le_refl _, by go_num, by rw [HC1.out]; rfl, by rw [HC2.out]; rfl, HM2.out, HS7.out⟩
              · go_upto_region 18 with (go_at_call 10; (with_reducible refine GEO.out.mono ?_); rintro e w6 ⟨rfl, rfl⟩)
                clear hrun hlk2 x0 x9 p0 p1 p2 p3 p4 p5 p6 p7 p8 p9 p10 p11 p12 p13
                have y0 := HX7.out.cell 0 rfl
                have y8 := HX7.out.cell 8 rfl
                go_wp2
                clear y8
                go_loopg [61] l1.length (fun ix iv ws => ∃ i : Nat, i ≤ l1.length ∧ l1.length - i ≤ ix ∧ iv = .int .i64 i ∧ w7 = ws)
                case atStart => exact ⟨0, Nat.zero_le _, Nat.le_refl _, rfl, rfl⟩
                case round =>
                  obtain ⟨i, hi2, hix, rfl, rfl⟩ := hrel
                  by_cases hil : i < l1.length
                  · obtain ⟨g5, o5, c5, e, -, -, q0⟩ := (OwnI.ints HSP7.out).spot i hil
                    simp only [Value.slice.injEq] at e
                    obtain ⟨rfl, -, rfl⟩ := e
                    have HIT := Lib.hid (And.intro hil hix)
                    have i0 : (0 : Int) ≤ (i : Int) := by omega
                    have i1 : (i : Int) < (l1.length : Int) := by omega
                    have hpr := HPAIR.out _ (List.getElem_mem hil)
                    have GS1 := Lib.hid (GS.out _ w7 HS7.out.D (HPRE.out _ (List.getElem_mem hil)))
                    generalize l1[i]'hil = y at *
                    generalize sgT T' y = pp at *
                    have hpp : pp = 4 := by omega
                    clear hpr hil hix hi2
                    subst hpp
                    all_goals
                      go_wp2_with (go_at_call 11; (with_reducible refine GS1.out.mono ?_); rintro e w8 ⟨rfl, rfl⟩)
                      go_roundg (l1.length - (i + 1))
                      case measure => have := HIT.out; omega
                      case rel => exact ⟨i + 1, by have := HIT.out; omega, Nat.le_refl _, by go_num, rfl⟩
                  · have hie : i = l1.length := by omega
                    subst hie
                    clear hil hix hi2
                    go_wp2
                    go_roundg (V.length - (j + 1))
                    case measure => have := HJT.out; omega
                    case rel => exact ⟨j + 1, m2, by have := HJT.out; omega, Nat.le_refl _, by go_num, by rw [HC1.out]; rfl, by rw [HC2.out]; rfl, HM2.out, HS7.out⟩
              · go_upto_region 18 with (go_at_call 10; (with_reducible refine GEO.out.mono ?_); rintro e w6 ⟨rfl, rfl⟩)
                clear hrun hlk2 x0 x9 p0 p1 p2 p3 p4 p5 p6 p7 p8 p9 p10 p11 p12 p13
                have y0 := HX7.out.cell 0 rfl
                have y8 := HX7.out.cell 8 rfl
                go_wp2
                clear y8
                go_loopg [61] l1.length (fun ix iv ws => ∃ i : Nat, i ≤ l1.length ∧ l1.length - i ≤ ix ∧ iv = .int .i64 i ∧ w7 = ws)
                case atStart => exact ⟨0, Nat.zero_le _, Nat.le_refl _, rfl, rfl⟩
                case round =>
                  obtain ⟨i, hi2, hix, rfl, rfl⟩ := hrel
                  by_cases hil : i < l1.length
                  · obtain ⟨g5, o5, c5, e, -, -, q0⟩ := (OwnI.ints HSP7.out).spot i hil
                    simp only [Value.slice.injEq] at e
                    obtain ⟨rfl, -, rfl⟩ := e
                    have HIT := Lib.hid (And.intro hil hix)
                    have i0 : (0 : Int) ≤ (i : Int) := by omega
                    have i1 : (i : Int) < (l1.length : Int) := by omega
                    have hpr := HPAIR.out _ (List.getElem_mem hil)
                    have GS1 := Lib.hid (GS.out _ w7 HS7.out.D (HPRE.out _ (List.getElem_mem hil)))
                    generalize l1[i]'hil = y at *
                    generalize sgT T' y = pp at *
                    have hpp : pp = 4 ∨ pp = 1 ∨ pp = 2 ∨ pp = 5 ∨ pp = 6 := by omega
                    clear hpr hil hix hi2
                    rcases hpp with rfl | rfl | rfl | rfl | rfl
                    all_goals
                      go_wp2_with (go_at_call 11; (with_reducible refine GS1.out.mono ?_); rintro e w8 ⟨rfl, rfl⟩)
                      go_roundg (l1.length - (i + 1))
                      case measure => have := HIT.out; omega
                      case rel => exact ⟨i + 1, by have := HIT.out; omega, Nat.le_refl _, by go_num, rfl⟩
                  · have hie : i = l1.length := by omega
                    subst hie
                    clear hil hix hi2
                    go_wp2
                    go_roundg (V.length - (j + 1))
                    case measure => have := HJT.out; omega
                    case rel => exact ⟨j + 1, m2, by have := HJT.out; omega, Nat.le_refl _, by go_num, by rw [HC1.out]; rfl, by rw [HC2.out]; rfl, HM2.out, HS7.out⟩
          · have hje : j = V.length := by omega
            subst hje
            have hcnt := HWF4.out.counts
            rw [← HVL.out] at hcnt
            have hb1 := cntS_bd T' 1 V.length
            have hb2 := cntS_bd T' 2 V.length
            have hM := HS.out.M
            rw [wasG_end T T' HKP.out.1 V.length HVL.out] at hM
            have HME := Lib.hid hM
            generalize cntS T' 1 V.length = n1 at *
            generalize cntS T' 2 V.length = n2 at *
            clear hM hjl hj hjx
            by_cases hn1 : 0 < n1
            · have en2 : (n2 == 0) = false := beq_noI fun e => hcnt ⟨hn1, e⟩
              clear hcnt
              go_wp2
              go_roundg (l.length - (k + 1))
              case measure => have := HLT.out; omega
              case rel => exact ⟨k + 1, T', F', nx', g', Fm', m1, by have := HLT.out; omega, Nat.le_refl _, by go_num, HS.out.D, HME.out, (show m1 ≤ 64 * (k + 1) by have := HM1.out; have := HVL.out; have := HT64.out; omega), HF4.out, HW4.out, HS.out.b⟩
            · clear hcnt
              go_wp2
              go_roundg (l.length - (k + 1))
              case measure => have := HLT.out; omega
              case rel => exact ⟨k + 1, T', F', nx', g', Fm', m1, by have := HLT.out; omega, Nat.le_refl _, by go_num, HS.out.D, HME.out, (show m1 ≤ 64 * (k + 1) by have := HM1.out; have := HVL.out; have := HT64.out; omega), HF4.out, HW4.out, HS.out.b⟩
      · have hke : k = l.length := by omega
        subst hke
        clear hlt hk hkx
        go_wp2_with (go_at_call 6; (with_reducible refine (GAL.out _).mono ?_); rintro e w4 ⟨rfl, hb⟩; have HB4 := Lib.hid (HB.out.trans (hb.mono HB.out.size)); clear hb)
        go_ret
        exact ⟨rfl, HB4.out⟩
  · have hf2 : fewDa l 40 = false := by simpa using hf
    rw [hf2] at GF0
    have GF := Lib.hid GF0
    clear hf hf2 hl hI GF0
    go_enter Try.func3, Try.ntmps3
    go_wp2_with (first
      | (go_at_call 5; (with_reducible refine GF.out.mono ?_); rintro e w1 ⟨rfl, hb⟩; have HB1 := Lib.hid hb; clear hb)
      | (go_at_call 6; (with_reducible refine (GAL.out _).mono ?_); rintro e w4 ⟨rfl, hb⟩; have HB4 := Lib.hid (HB1.out.trans (hb.mono HB1.out.size)); clear hb))
    go_ret
    exact ⟨rfl, HB4.out⟩
end Go.Proofs.Ythchkhgimnchcaa
