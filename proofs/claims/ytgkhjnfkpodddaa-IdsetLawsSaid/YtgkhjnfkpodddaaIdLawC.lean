/- The law IdsetLaws. -/
import Derived.Test.YtgkhjnfkpodddaaIdLaw
namespace Go.Proofs.Ytgkhjnfkpodddaa
open Go.RowKit

set_option maxHeartbeats 32000000 in
set_option maxRecDepth 100000 in
theorem idsetLaws_any (C : IdProg) (va vb vc : Value) (a b c : List Int) (w : World) (ha : IntsAt w va a) (hb : IntsAt w vb b) (hc : IntsAt w vc c) (ba : B64 a) (bb : B64 b) (bc : B64 c) :
    Calls Try.prog 5 #[va, vb, vc] w fun e w' => e = .returned (.bool true) ∧ Below w.heap.size w w' := by
  have HAL := Lib.hid fun w => iAlive_any C w
  have IA := Lib.hid fun w' (h : Below w.heap.size w w') => IntsAt.below ha h
  have IB := Lib.hid fun w' (h : Below w.heap.size w w') => IntsAt.below hb h
  have IC := Lib.hid fun w' (h : Below w.heap.size w w') => IntsAt.below hc h
  obtain ⟨a0, a1, rfl⟩ := IntsAt.form ha
  obtain ⟨b0, b1, rfl⟩ := IntsAt.form hb
  obtain ⟨c0, c1, rfl⟩ := IntsAt.form hc
  have HLENS := trivial
  by_cases h1 : a.length ≤ 40
  · have g1 : ¬ (40 : Int) < (a.length : Int) := by omega
    by_cases h2 : b.length ≤ 40
    · have g2 : ¬ (40 : Int) < (b.length : Int) := by omega
      by_cases h3 : c.length ≤ 40
      · have g3 : ¬ (40 : Int) < (c.length : Int) := by omega
        have lx : (lessL a b).length ≤ a.length := pick_len a b false
        have ly : (andL a b).length ≤ a.length := pick_len a b true
        have lz : (lessL b a).length ≤ b.length := pick_len b a false
        have lv := or_len (lessL a b) (andL a b)
        have lu := or_len a b
        have bx : B64 (lessL a b) := B64.pick false ba
        have by_ : B64 (andL a b) := B64.pick true ba
        have bz : B64 (lessL b a) := B64.pick false bb
        have bv : B64 (orL (lessL a b) (andL a b)) := bx.or by_
        have bu : B64 (orL a b) := ba.or bb
        have P1 := Lib.hid fun w' (h : Below w.heap.size w w') => C.less _ _ a b w' (IA.out w' h) (IB.out w' h) (by omega) (by omega) ba bb
        have P2 := Lib.hid fun w' (h : Below w.heap.size w w') => C.and _ _ a b w' (IA.out w' h) (IB.out w' h) (by omega) (by omega) ba bb
        have P3 := Lib.hid fun w' (h : Below w.heap.size w w') => C.less _ _ b a w' (IB.out w' h) (IA.out w' h) (by omega) (by omega) bb ba
        have P4 := Lib.hid fun v1 v2 w' (_ : Below w.heap.size w w') (k1 : IntsAt w' v1 (lessL a b)) (k2 : IntsAt w' v2 (andL a b)) => C.or v1 v2 _ _ w' k1 k2 (by omega) (by omega) bx by_
        have P5 := Lib.hid fun v1 v2 w' (_ : Below w.heap.size w w') (k1 : IntsAt w' v1 (orL (lessL a b) (andL a b))) (k2 : IntsAt w' v2 (lessL b a)) => C.or v1 v2 _ _ w' k1 k2 (by omega) (by omega) bv bz
        rw [id_all] at P5
        have P6 := Lib.hid fun w' (h : Below w.heap.size w w') => C.or _ _ a b w' (IA.out w' h) (IB.out w' h) (by omega) (by omega) ba bb
        have P7 := Lib.hid fun v w' (_ : Below w.heap.size w w') (k : IntsAt w' v (orL a b)) => C.right v _ w' k (by omega) bu
        rw [show rightB (orL a b) = true from decide_eq_true (setL_ris _)] at P7
        have P8 := Lib.hid fun v w' (h : Below w.heap.size w w') (k : IntsAt w' v (andL a b)) => C.within v _ _ a w' k (IA.out w' h) (by omega) (by omega) by_ ba
        rw [show withinB (andL a b) a = true from (within_iff _ _).2 fun x hx => ((and_mem _ _ _).1 hx).1] at P8
        have P9 := Lib.hid fun v w' (h : Below w.heap.size w w') (k : IntsAt w' v (orL a b)) => C.within _ v a _ w' (IA.out w' h) k (by omega) (by omega) ba bu
        rw [show withinB a (orL a b) = true from (within_iff _ _).2 fun x hx => (or_mem _ _ _).2 (.inl hx)] at P9
        have P10 := Lib.hid fun w' (h : Below w.heap.size w w') => C.within _ _ a b w' (IA.out w' h) (IB.out w' h) (by omega) (by omega) ba bb
        have P11 := Lib.hid fun w' (h : Below w.heap.size w w') => C.within _ _ b c w' (IB.out w' h) (IC.out w' h) (by omega) (by omega) bb bc
        have P12 := Lib.hid fun w' (h : Below w.heap.size w w') => C.within _ _ a c w' (IA.out w' h) (IC.out w' h) (by omega) (by omega) ba bc
        have P13 := Lib.hid fun w' (h : Below w.heap.size w w') => C.within _ _ b a w' (IB.out w' h) (IA.out w' h) (by omega) (by omega) bb ba
        have P14 := Lib.hid fun w' (h : Below w.heap.size w w') => C.of _ a w' (IA.out w' h) (by omega) ba
        have P15 := Lib.hid fun w' (h : Below w.heap.size w w') => C.of _ b w' (IB.out w' h) (by omega) bb
        have PA := Lib.hid fun n v w' (_ : Below w.heap.size w w') (k : IntsAt w' v (orL a b)) hn => C.above v _ n w' k (by omega) bu hn
        have PH := Lib.hid fun v w' (_ : Below w.heap.size w w') (k : IntsAt w' v (orL a b)) => C.has v _ (-9223372036854775808) w' k (by omega) bu (by omega)
        have PM : -9223372036854775808 ≤ (-9223372036854775808 : Int) ∧ (-9223372036854775808 : Int) ≤ 9223372036854775807 := by omega
        have hcount := id_count a b
        have CI := Lib.hid fun va vb w (ha : IntsAt w va (orL a b)) (hb : IntsAt w vb (orL a b)) => refInts_any va vb _ _ w ha hb (by omega) (by omega)
        have sa := setL_le a
        have sb := setL_le b
        have CI2 := Lib.hid fun va vb w (ha : IntsAt w va (setL a)) (hb : IntsAt w vb (setL b)) => refInts_any va vb _ _ w ha hb (by omega) (by omega)
        simp only [decide_true] at CI
        have hself : setL (orL a b) = orL a b := setL_self (setL_ris _)
        have hFf : ((setL (orL a b)).filter fun x => decide (-9223372036854775808 < x)).length ≤ (orL a b).length := Nat.le_trans (List.length_filter_le _ _) (by rw [hself]; exact Nat.le_refl _)
        have HBX := Lib.hid fun x (hx : x ∈ (setL (orL a b)).filter fun x => decide (-9223372036854775808 < x)) => bu x (by have := (List.mem_filter.1 hx).1; rwa [hself] at this)
        have HAB := Lib.hid fun k (hk : k < ((setL (orL a b)).filter fun x => decide (-9223372036854775808 < x)).length) => abv_next (l := orL a b) hk
        have HAE := Lib.hid (abv_end (l := orL a b) (m := -9223372036854775808))
        have HNS := Lib.hid fun k (hk : k < ((setL (orL a b)).filter fun x => decide (-9223372036854775808 < x)).length) => next_succ hk
        have HIN := Lib.hid fun (hne : ((setL (orL a b)).filter fun x => decide (-9223372036854775808 < x)) ≠ orL a b) => (show inL (orL a b) (-9223372036854775808) = true from by
          refine inL_iff.2 (Classical.byContradiction fun hn => hne ?_)
          rw [hself]
          exact told_or (fun x hx => (bu x hx).1) hn)
        have HFL := Lib.hid (show ((setL (orL a b)).filter fun x => decide (-9223372036854775808 < x)).length ≤ 1000 by omega)
        have HFU := Lib.hid hFf
        have HUL := Lib.hid (show (orL a b).length ≤ 1000 by omega)
        have hw3 : withinB a b = true → withinB b c = true → withinB a c = true := fun k1 k2 => (within_iff _ _).2 fun x hx => (within_iff _ _).1 k2 x ((within_iff _ _).1 k1 x hx)
        have hw4 : withinB a b = true → withinB b a = decide (setL a = setL b) := fun k => within_same k
        generalize ((setL (orL a b)).filter fun x => decide (-9223372036854775808 < x)) = F at *
        generalize orL (lessL a b) (andL a b) = V at *
        generalize lessL a b = X at *
        generalize andL a b = Y at *
        generalize lessL b a = Z at *
        generalize orL a b = U at *
        generalize decide (setL a = setL b) = te at *
        generalize setL a = SA at *
        generalize setL b = SB at *
        have q1 : ((U.length : Int) != (X.length : Int) + (Y.length : Int) + (Z.length : Int)) = false := by simp; omega
        have q2 : (X.length : Int) ≤ 1000 := by omega
        have q3 : (Y.length : Int) ≤ 1000 := by omega
        have q4 : (Z.length : Int) ≤ 1000 := by omega
        have BB := Lib.hid (Below.refl w.heap.size w)
        clear lx ly lz lv lu bx by_ bz bv bu hcount sa sb hself hFf ha hb hc h1 h2 h3 HLENS
        cases k1 : withinB a b with
        | false =>
          rw [k1] at P10
          clear hw3 hw4 k1
          go_enter Try.func5, Try.ntmps5
          go_upto_region 9 with (first
            | (go_at_call 20; (with_reducible refine (P1.out _ BB.out).mono ?_); rintro e w' ⟨v, rfl, h, hb⟩; replace BB := Lib.hid (BB.out.trans (hb.mono BB.out.size)); obtain ⟨a_XX, c_XX, e⟩ := h.form; subst e; have XX := Lib.hid h; clear h hb)
            | (go_at_call 18; (with_reducible refine (P2.out _ BB.out).mono ?_); rintro e w' ⟨v, rfl, h, hb⟩; replace BB := Lib.hid (BB.out.trans (hb.mono BB.out.size)); obtain ⟨a_XY, c_XY, e⟩ := h.form; subst e; have XY := Lib.hid h; replace XX := Lib.hid (XX.out.below hb); clear h hb)
            | (go_at_call 20; (with_reducible refine (P3.out _ BB.out).mono ?_); rintro e w' ⟨v, rfl, h, hb⟩; replace BB := Lib.hid (BB.out.trans (hb.mono BB.out.size)); obtain ⟨a_XZ, c_XZ, e⟩ := h.form; subst e; have XZ := Lib.hid h; replace XX := Lib.hid (XX.out.below hb); replace XY := Lib.hid (XY.out.below hb); clear h hb)
            | (go_at_call 16; (with_reducible refine (P4.out _ _ _ BB.out XX.out XY.out).mono ?_); rintro e w' ⟨v, rfl, h, hb⟩; replace BB := Lib.hid (BB.out.trans (hb.mono BB.out.size)); obtain ⟨a_XV, c_XV, e⟩ := h.form; subst e; have XV := Lib.hid h; replace XY := Lib.hid (XY.out.below hb); replace XZ := Lib.hid (XZ.out.below hb); clear h hb)
            | (go_at_call 16; (with_reducible refine (P5.out _ _ _ BB.out XV.out XZ.out).mono ?_); rintro e w' ⟨v, rfl, h, hb⟩; replace BB := Lib.hid (BB.out.trans (hb.mono BB.out.size)); obtain ⟨a_XU, c_XU, e⟩ := h.form; subst e; have XU := Lib.hid h; replace XY := Lib.hid (XY.out.below hb); clear h hb)
            | (go_at_call 16; (with_reducible refine (P6.out _ BB.out).mono ?_); rintro e w' ⟨v, rfl, h, hb⟩; replace BB := Lib.hid (BB.out.trans (hb.mono BB.out.size)); obtain ⟨a_XW, c_XW, e⟩ := h.form; subst e; have XW := Lib.hid h; replace XU := Lib.hid (XU.out.below hb); replace XY := Lib.hid (XY.out.below hb); clear h hb)
            | (go_at_call 7; (with_reducible refine (CI.out _ _ _ XU.out XW.out).mono ?_); rintro e w' ⟨rfl, hb⟩; replace BB := Lib.hid (BB.out.trans (hb.mono BB.out.size)); replace XU := Lib.hid (XU.out.below hb); replace XY := Lib.hid (XY.out.below hb); clear hb)
            | (go_at_call 10; (with_reducible refine (P7.out _ _ BB.out XU.out).mono ?_); rintro e w' ⟨rfl, hb⟩; replace BB := Lib.hid (BB.out.trans (hb.mono BB.out.size)); replace XU := Lib.hid (XU.out.below hb); replace XY := Lib.hid (XY.out.below hb); clear hb)
            | (go_at_call 22; (with_reducible refine (P8.out _ _ BB.out XY.out).mono ?_); rintro e w' ⟨rfl, hb⟩; replace BB := Lib.hid (BB.out.trans (hb.mono BB.out.size)); replace XU := Lib.hid (XU.out.below hb); clear hb)
            | (go_at_call 22; (with_reducible refine (P9.out _ _ BB.out XU.out).mono ?_); rintro e w' ⟨rfl, hb⟩; replace BB := Lib.hid (BB.out.trans (hb.mono BB.out.size)); replace XU := Lib.hid (XU.out.below hb); clear hb)
            | (go_at_call 22; (with_reducible refine (P10.out _ BB.out).mono ?_); rintro e w' ⟨rfl, hb⟩; replace BB := Lib.hid (BB.out.trans (hb.mono BB.out.size)); replace XU := Lib.hid (XU.out.below hb); clear hb))
          clear P1 P2 P3 P4 P5 P6 P7 P8 P9 CI XX XY XZ XV XW
          go_wp2_with (go_at_call 14; (with_reducible refine (PA.out _ _ _ BB.out XU.out PM).mono ?_); rintro e wT ⟨rfl, hb⟩; replace BB := Lib.hid (BB.out.trans (hb.mono BB.out.size)); replace XU := Lib.hid (XU.out.below hb); clear hb)
          go_loopw [11, 12, 13] (fun tv nv sv wr => ∃ k : Nat, k ≤ F.length ∧ nv = .int .i64 (abvL U (nextA (setL U) (-9223372036854775808) k)).1 ∧ sv = .bool (abvL U (nextA (setL U) (-9223372036854775808) k)).2 ∧ OwnI wr wT.heap.size tv (F.take k) ∧ Below wT.heap.size wT wr) (fun tv _ _ _ => F.length - slen tv)
          case atStart => exact ⟨0, by omega, rfl, rfl, OwnR.nil _ _ _ _ _, Below.refl _ _⟩
          case round =>
            obtain ⟨k, hk, hn, hs, ho, hB⟩ := hrel
            have HBk := Lib.hid hB
            have hTl : (F.take k).length = k := by rw [List.length_take]; omega
            by_cases hlt : k < F.length
            · have HLT := Lib.hid hlt
              have hab := HAB.out k hlt
              rw [hab] at hn hs
              simp only at hn hs
              have hnx : F.take (k + 1) = F.take k ++ [F[k]'hlt] := List.take_succ_eq_append_getElem hlt
              have hns := HNS.out k hlt
              have hbx := HBX.out _ (List.getElem_mem hlt)
              generalize F[k]'hlt = x at *
              generalize F.take k = T at *
              subst hn hs
              have HO := Lib.hid ho
              have HNX := Lib.hid hnx
              have HNS2 := Lib.hid hns
              have HTL := Lib.hid hTl
              obtain ⟨aT, cT, e⟩ := RowsAt.form (OwnR.rows csI_len ho)
              subst e
              have G := Lib.hid fun w' (h : Below wT.heap.size wT w') => PA.out x _ w' (BB.out.trans (h.mono BB.out.size)) (XU.out.below h) hbx
              have hk1 : (T.length : Int) ≤ (U.length : Int) := by have := HFU.out; omega
              clear hab ho hB hnx hns hbx hTl
              go_wp2_with (first
                | (at_builtin; refine app1 HO.out HBk.out.size (by have := HTL.out; have := HFL.out; have := HLT.out; omega) rfl _ _ rfl rfl rfl ?_; intro v6 w6 o6 b6; have HO6 := Lib.hid o6; have HB6 := Lib.hid (HBk.out.trans b6); obtain ⟨a6, c6, e6⟩ := RowsAt.form (OwnR.rows csI_len o6); rw [List.length_append, List.length_singleton] at e6; subst e6; clear o6 b6)
                | (go_at_call 14; (with_reducible refine (G.out _ HB6.out).mono ?_); rintro e w8 ⟨rfl, hb⟩; have HB8 := Lib.hid (HB6.out.trans (hb.mono HB6.out.size)); have HO8 := Lib.hid (OwnR.kept HO6.out hb); clear hb))
              go_roundw
              case rel => exact ⟨k + 1, by have := HLT.out; omega, by rw [HNS2.out], by rw [HNS2.out], by rw [HNX.out]; exact HO8.out, HB8.out⟩
              case measure => have := HLT.out; have := HTL.out; simp [slen]; omega
            · have hke : k = F.length := by omega
              subst hke
              rw [HAE.out] at hn hs
              simp only at hn hs
              subst hn hs
              rw [List.take_length] at ho
              have HO := Lib.hid ho
              obtain ⟨aT, cT, e⟩ := RowsAt.form (OwnR.rows csI_len ho)
              subst e
              have BB2 := Lib.hid (BB.out.trans (hB.mono BB.out.size))
              have XU2 := Lib.hid (XU.out.below hB)
              have GI := refInts_any _ _ F U _ (OwnI.ints ho) (XU.out.below hB) (by have := HFL.out; omega) (by have := HUL.out; omega)
              by_cases hfu : F = U
              · rw [decide_eq_true hfu] at GI
                have GI2 := Lib.hid GI
                clear GI hfu ho hB hlt hTl
                go_wp2_with (first
                  | (go_at_call 7; (with_reducible refine GI2.out.mono ?_); rintro e w' ⟨rfl, hb⟩; replace BB2 := Lib.hid (BB2.out.trans (hb.mono BB2.out.size)); clear hb)
                  | (go_at_call 6; (with_reducible refine (HAL.out _).mono ?_); rintro e w' ⟨rfl, hb⟩; replace BB2 := Lib.hid (BB2.out.trans (hb.mono BB2.out.size)); clear hb))
                go_ret
                exact ⟨rfl, BB2.out⟩
              · rw [decide_eq_false hfu] at GI
                have GI2 := Lib.hid GI
                have hin := HIN.out hfu
                have GH := Lib.hid fun v w' (h : Below w.heap.size w w') hu => PH.out v w' h hu
                rw [hin] at GH
                clear GI hfu ho hB hlt hTl hin
                go_wp2_with (first
                  | (go_at_call 7; (with_reducible refine GI2.out.mono ?_); rintro e w' ⟨rfl, hb⟩; replace BB2 := Lib.hid (BB2.out.trans (hb.mono BB2.out.size)); replace XU2 := Lib.hid (XU2.out.below hb); clear hb)
                  | (go_at_call 12; (with_reducible refine (GH.out _ _ BB2.out XU2.out).mono ?_); rintro e w' ⟨rfl, hb⟩; replace BB2 := Lib.hid (BB2.out.trans (hb.mono BB2.out.size)); clear hb)
                  | (go_at_call 6; (with_reducible refine (HAL.out _).mono ?_); rintro e w' ⟨rfl, hb⟩; replace BB2 := Lib.hid (BB2.out.trans (hb.mono BB2.out.size)); clear hb))
                go_ret
                exact ⟨rfl, BB2.out⟩
        | true =>
          rw [k1] at P10
          rw [hw4 k1] at P13
          have ht : (te != te) = false := by simp
          cases k2 : withinB b c with
          | false =>
            rw [k2] at P11
            clear hw3 hw4 k1 k2
            go_enter Try.func5, Try.ntmps5
            go_upto_region 9 with (first
              | (go_at_call 20; (with_reducible refine (P1.out _ BB.out).mono ?_); rintro e w' ⟨v, rfl, h, hb⟩; replace BB := Lib.hid (BB.out.trans (hb.mono BB.out.size)); obtain ⟨a_XX, c_XX, e⟩ := h.form; subst e; have XX := Lib.hid h; clear h hb)
              | (go_at_call 18; (with_reducible refine (P2.out _ BB.out).mono ?_); rintro e w' ⟨v, rfl, h, hb⟩; replace BB := Lib.hid (BB.out.trans (hb.mono BB.out.size)); obtain ⟨a_XY, c_XY, e⟩ := h.form; subst e; have XY := Lib.hid h; replace XX := Lib.hid (XX.out.below hb); clear h hb)
              | (go_at_call 20; (with_reducible refine (P3.out _ BB.out).mono ?_); rintro e w' ⟨v, rfl, h, hb⟩; replace BB := Lib.hid (BB.out.trans (hb.mono BB.out.size)); obtain ⟨a_XZ, c_XZ, e⟩ := h.form; subst e; have XZ := Lib.hid h; replace XX := Lib.hid (XX.out.below hb); replace XY := Lib.hid (XY.out.below hb); clear h hb)
              | (go_at_call 16; (with_reducible refine (P4.out _ _ _ BB.out XX.out XY.out).mono ?_); rintro e w' ⟨v, rfl, h, hb⟩; replace BB := Lib.hid (BB.out.trans (hb.mono BB.out.size)); obtain ⟨a_XV, c_XV, e⟩ := h.form; subst e; have XV := Lib.hid h; replace XY := Lib.hid (XY.out.below hb); replace XZ := Lib.hid (XZ.out.below hb); clear h hb)
              | (go_at_call 16; (with_reducible refine (P5.out _ _ _ BB.out XV.out XZ.out).mono ?_); rintro e w' ⟨v, rfl, h, hb⟩; replace BB := Lib.hid (BB.out.trans (hb.mono BB.out.size)); obtain ⟨a_XU, c_XU, e⟩ := h.form; subst e; have XU := Lib.hid h; replace XY := Lib.hid (XY.out.below hb); clear h hb)
              | (go_at_call 16; (with_reducible refine (P6.out _ BB.out).mono ?_); rintro e w' ⟨v, rfl, h, hb⟩; replace BB := Lib.hid (BB.out.trans (hb.mono BB.out.size)); obtain ⟨a_XW, c_XW, e⟩ := h.form; subst e; have XW := Lib.hid h; replace XU := Lib.hid (XU.out.below hb); replace XY := Lib.hid (XY.out.below hb); clear h hb)
              | (go_at_call 7; (with_reducible refine (CI.out _ _ _ XU.out XW.out).mono ?_); rintro e w' ⟨rfl, hb⟩; replace BB := Lib.hid (BB.out.trans (hb.mono BB.out.size)); replace XU := Lib.hid (XU.out.below hb); replace XY := Lib.hid (XY.out.below hb); clear hb)
              | (go_at_call 10; (with_reducible refine (P7.out _ _ BB.out XU.out).mono ?_); rintro e w' ⟨rfl, hb⟩; replace BB := Lib.hid (BB.out.trans (hb.mono BB.out.size)); replace XU := Lib.hid (XU.out.below hb); replace XY := Lib.hid (XY.out.below hb); clear hb)
              | (go_at_call 22; (with_reducible refine (P8.out _ _ BB.out XY.out).mono ?_); rintro e w' ⟨rfl, hb⟩; replace BB := Lib.hid (BB.out.trans (hb.mono BB.out.size)); replace XU := Lib.hid (XU.out.below hb); clear hb)
              | (go_at_call 22; (with_reducible refine (P9.out _ _ BB.out XU.out).mono ?_); rintro e w' ⟨rfl, hb⟩; replace BB := Lib.hid (BB.out.trans (hb.mono BB.out.size)); replace XU := Lib.hid (XU.out.below hb); clear hb)
              | (go_at_call 22; (with_reducible refine (P10.out _ BB.out).mono ?_); rintro e w' ⟨rfl, hb⟩; replace BB := Lib.hid (BB.out.trans (hb.mono BB.out.size)); replace XU := Lib.hid (XU.out.below hb); clear hb)
              | (go_at_call 22; (with_reducible refine (P11.out _ BB.out).mono ?_); rintro e w' ⟨rfl, hb⟩; replace BB := Lib.hid (BB.out.trans (hb.mono BB.out.size)); replace XU := Lib.hid (XU.out.below hb); clear hb)
              | (go_at_call 22; (with_reducible refine (P13.out _ BB.out).mono ?_); rintro e w' ⟨rfl, hb⟩; replace BB := Lib.hid (BB.out.trans (hb.mono BB.out.size)); replace XU := Lib.hid (XU.out.below hb); clear hb)
              | (go_at_call 8; (with_reducible refine (P14.out _ BB.out).mono ?_); rintro e w' ⟨v, rfl, h, hb⟩; replace BB := Lib.hid (BB.out.trans (hb.mono BB.out.size)); obtain ⟨a_XA, c_XA, e⟩ := h.form; subst e; have XA := Lib.hid h; replace XU := Lib.hid (XU.out.below hb); clear h hb)
              | (go_at_call 8; (with_reducible refine (P15.out _ BB.out).mono ?_); rintro e w' ⟨v, rfl, h, hb⟩; replace BB := Lib.hid (BB.out.trans (hb.mono BB.out.size)); obtain ⟨a_XB, c_XB, e⟩ := h.form; subst e; have XB := Lib.hid h; replace XU := Lib.hid (XU.out.below hb); replace XA := Lib.hid (XA.out.below hb); clear h hb)
              | (go_at_call 7; (with_reducible refine (CI2.out _ _ _ XA.out XB.out).mono ?_); rintro e w' ⟨rfl, hb⟩; replace BB := Lib.hid (BB.out.trans (hb.mono BB.out.size)); replace XU := Lib.hid (XU.out.below hb); clear hb))
            clear P1 P2 P3 P4 P5 P6 P7 P8 P9 CI XX XY XZ XV XW
            go_wp2_with (go_at_call 14; (with_reducible refine (PA.out _ _ _ BB.out XU.out PM).mono ?_); rintro e wT ⟨rfl, hb⟩; replace BB := Lib.hid (BB.out.trans (hb.mono BB.out.size)); replace XU := Lib.hid (XU.out.below hb); clear hb)
            go_loopw [11, 12, 13] (fun tv nv sv wr => ∃ k : Nat, k ≤ F.length ∧ nv = .int .i64 (abvL U (nextA (setL U) (-9223372036854775808) k)).1 ∧ sv = .bool (abvL U (nextA (setL U) (-9223372036854775808) k)).2 ∧ OwnI wr wT.heap.size tv (F.take k) ∧ Below wT.heap.size wT wr) (fun tv _ _ _ => F.length - slen tv)
            case atStart => exact ⟨0, by omega, rfl, rfl, OwnR.nil _ _ _ _ _, Below.refl _ _⟩
            case round =>
              obtain ⟨k, hk, hn, hs, ho, hB⟩ := hrel
              have HBk := Lib.hid hB
              have hTl : (F.take k).length = k := by rw [List.length_take]; omega
              by_cases hlt : k < F.length
              · have HLT := Lib.hid hlt
                have hab := HAB.out k hlt
                rw [hab] at hn hs
                simp only at hn hs
                have hnx : F.take (k + 1) = F.take k ++ [F[k]'hlt] := List.take_succ_eq_append_getElem hlt
                have hns := HNS.out k hlt
                have hbx := HBX.out _ (List.getElem_mem hlt)
                generalize F[k]'hlt = x at *
                generalize F.take k = T at *
                subst hn hs
                have HO := Lib.hid ho
                have HNX := Lib.hid hnx
                have HNS2 := Lib.hid hns
                have HTL := Lib.hid hTl
                obtain ⟨aT, cT, e⟩ := RowsAt.form (OwnR.rows csI_len ho)
                subst e
                have G := Lib.hid fun w' (h : Below wT.heap.size wT w') => PA.out x _ w' (BB.out.trans (h.mono BB.out.size)) (XU.out.below h) hbx
                have hk1 : (T.length : Int) ≤ (U.length : Int) := by have := HFU.out; omega
                clear hab ho hB hnx hns hbx hTl
                go_wp2_with (first
                  | (at_builtin; refine app1 HO.out HBk.out.size (by have := HTL.out; have := HFL.out; have := HLT.out; omega) rfl _ _ rfl rfl rfl ?_; intro v6 w6 o6 b6; have HO6 := Lib.hid o6; have HB6 := Lib.hid (HBk.out.trans b6); obtain ⟨a6, c6, e6⟩ := RowsAt.form (OwnR.rows csI_len o6); rw [List.length_append, List.length_singleton] at e6; subst e6; clear o6 b6)
                  | (go_at_call 14; (with_reducible refine (G.out _ HB6.out).mono ?_); rintro e w8 ⟨rfl, hb⟩; have HB8 := Lib.hid (HB6.out.trans (hb.mono HB6.out.size)); have HO8 := Lib.hid (OwnR.kept HO6.out hb); clear hb))
                go_roundw
                case rel => exact ⟨k + 1, by have := HLT.out; omega, by rw [HNS2.out], by rw [HNS2.out], by rw [HNX.out]; exact HO8.out, HB8.out⟩
                case measure => have := HLT.out; have := HTL.out; simp [slen]; omega
              · have hke : k = F.length := by omega
                subst hke
                rw [HAE.out] at hn hs
                simp only at hn hs
                subst hn hs
                rw [List.take_length] at ho
                have HO := Lib.hid ho
                obtain ⟨aT, cT, e⟩ := RowsAt.form (OwnR.rows csI_len ho)
                subst e
                have BB2 := Lib.hid (BB.out.trans (hB.mono BB.out.size))
                have XU2 := Lib.hid (XU.out.below hB)
                have GI := refInts_any _ _ F U _ (OwnI.ints ho) (XU.out.below hB) (by have := HFL.out; omega) (by have := HUL.out; omega)
                by_cases hfu : F = U
                · rw [decide_eq_true hfu] at GI
                  have GI2 := Lib.hid GI
                  clear GI hfu ho hB hlt hTl
                  go_wp2_with (first
                    | (go_at_call 7; (with_reducible refine GI2.out.mono ?_); rintro e w' ⟨rfl, hb⟩; replace BB2 := Lib.hid (BB2.out.trans (hb.mono BB2.out.size)); clear hb)
                    | (go_at_call 6; (with_reducible refine (HAL.out _).mono ?_); rintro e w' ⟨rfl, hb⟩; replace BB2 := Lib.hid (BB2.out.trans (hb.mono BB2.out.size)); clear hb))
                  go_ret
                  exact ⟨rfl, BB2.out⟩
                · rw [decide_eq_false hfu] at GI
                  have GI2 := Lib.hid GI
                  have hin := HIN.out hfu
                  have GH := Lib.hid fun v w' (h : Below w.heap.size w w') hu => PH.out v w' h hu
                  rw [hin] at GH
                  clear GI hfu ho hB hlt hTl hin
                  go_wp2_with (first
                    | (go_at_call 7; (with_reducible refine GI2.out.mono ?_); rintro e w' ⟨rfl, hb⟩; replace BB2 := Lib.hid (BB2.out.trans (hb.mono BB2.out.size)); replace XU2 := Lib.hid (XU2.out.below hb); clear hb)
                    | (go_at_call 12; (with_reducible refine (GH.out _ _ BB2.out XU2.out).mono ?_); rintro e w' ⟨rfl, hb⟩; replace BB2 := Lib.hid (BB2.out.trans (hb.mono BB2.out.size)); clear hb)
                    | (go_at_call 6; (with_reducible refine (HAL.out _).mono ?_); rintro e w' ⟨rfl, hb⟩; replace BB2 := Lib.hid (BB2.out.trans (hb.mono BB2.out.size)); clear hb))
                  go_ret
                  exact ⟨rfl, BB2.out⟩
          | true =>
            rw [k2] at P11
            rw [hw3 k1 k2] at P12
            clear hw3 hw4 k1 k2
            go_enter Try.func5, Try.ntmps5
            go_upto_region 9 with (first
              | (go_at_call 20; (with_reducible refine (P1.out _ BB.out).mono ?_); rintro e w' ⟨v, rfl, h, hb⟩; replace BB := Lib.hid (BB.out.trans (hb.mono BB.out.size)); obtain ⟨a_XX, c_XX, e⟩ := h.form; subst e; have XX := Lib.hid h; clear h hb)
              | (go_at_call 18; (with_reducible refine (P2.out _ BB.out).mono ?_); rintro e w' ⟨v, rfl, h, hb⟩; replace BB := Lib.hid (BB.out.trans (hb.mono BB.out.size)); obtain ⟨a_XY, c_XY, e⟩ := h.form; subst e; have XY := Lib.hid h; replace XX := Lib.hid (XX.out.below hb); clear h hb)
              | (go_at_call 20; (with_reducible refine (P3.out _ BB.out).mono ?_); rintro e w' ⟨v, rfl, h, hb⟩; replace BB := Lib.hid (BB.out.trans (hb.mono BB.out.size)); obtain ⟨a_XZ, c_XZ, e⟩ := h.form; subst e; have XZ := Lib.hid h; replace XX := Lib.hid (XX.out.below hb); replace XY := Lib.hid (XY.out.below hb); clear h hb)
              | (go_at_call 16; (with_reducible refine (P4.out _ _ _ BB.out XX.out XY.out).mono ?_); rintro e w' ⟨v, rfl, h, hb⟩; replace BB := Lib.hid (BB.out.trans (hb.mono BB.out.size)); obtain ⟨a_XV, c_XV, e⟩ := h.form; subst e; have XV := Lib.hid h; replace XY := Lib.hid (XY.out.below hb); replace XZ := Lib.hid (XZ.out.below hb); clear h hb)
              | (go_at_call 16; (with_reducible refine (P5.out _ _ _ BB.out XV.out XZ.out).mono ?_); rintro e w' ⟨v, rfl, h, hb⟩; replace BB := Lib.hid (BB.out.trans (hb.mono BB.out.size)); obtain ⟨a_XU, c_XU, e⟩ := h.form; subst e; have XU := Lib.hid h; replace XY := Lib.hid (XY.out.below hb); clear h hb)
              | (go_at_call 16; (with_reducible refine (P6.out _ BB.out).mono ?_); rintro e w' ⟨v, rfl, h, hb⟩; replace BB := Lib.hid (BB.out.trans (hb.mono BB.out.size)); obtain ⟨a_XW, c_XW, e⟩ := h.form; subst e; have XW := Lib.hid h; replace XU := Lib.hid (XU.out.below hb); replace XY := Lib.hid (XY.out.below hb); clear h hb)
              | (go_at_call 7; (with_reducible refine (CI.out _ _ _ XU.out XW.out).mono ?_); rintro e w' ⟨rfl, hb⟩; replace BB := Lib.hid (BB.out.trans (hb.mono BB.out.size)); replace XU := Lib.hid (XU.out.below hb); replace XY := Lib.hid (XY.out.below hb); clear hb)
              | (go_at_call 10; (with_reducible refine (P7.out _ _ BB.out XU.out).mono ?_); rintro e w' ⟨rfl, hb⟩; replace BB := Lib.hid (BB.out.trans (hb.mono BB.out.size)); replace XU := Lib.hid (XU.out.below hb); replace XY := Lib.hid (XY.out.below hb); clear hb)
              | (go_at_call 22; (with_reducible refine (P8.out _ _ BB.out XY.out).mono ?_); rintro e w' ⟨rfl, hb⟩; replace BB := Lib.hid (BB.out.trans (hb.mono BB.out.size)); replace XU := Lib.hid (XU.out.below hb); clear hb)
              | (go_at_call 22; (with_reducible refine (P9.out _ _ BB.out XU.out).mono ?_); rintro e w' ⟨rfl, hb⟩; replace BB := Lib.hid (BB.out.trans (hb.mono BB.out.size)); replace XU := Lib.hid (XU.out.below hb); clear hb)
              | (go_at_call 22; (with_reducible refine (P10.out _ BB.out).mono ?_); rintro e w' ⟨rfl, hb⟩; replace BB := Lib.hid (BB.out.trans (hb.mono BB.out.size)); replace XU := Lib.hid (XU.out.below hb); clear hb)
              | (go_at_call 22; (with_reducible refine (P11.out _ BB.out).mono ?_); rintro e w' ⟨rfl, hb⟩; replace BB := Lib.hid (BB.out.trans (hb.mono BB.out.size)); replace XU := Lib.hid (XU.out.below hb); clear hb)
              | (go_at_call 22; (with_reducible refine (P12.out _ BB.out).mono ?_); rintro e w' ⟨rfl, hb⟩; replace BB := Lib.hid (BB.out.trans (hb.mono BB.out.size)); replace XU := Lib.hid (XU.out.below hb); clear hb)
              | (go_at_call 22; (with_reducible refine (P13.out _ BB.out).mono ?_); rintro e w' ⟨rfl, hb⟩; replace BB := Lib.hid (BB.out.trans (hb.mono BB.out.size)); replace XU := Lib.hid (XU.out.below hb); clear hb)
              | (go_at_call 8; (with_reducible refine (P14.out _ BB.out).mono ?_); rintro e w' ⟨v, rfl, h, hb⟩; replace BB := Lib.hid (BB.out.trans (hb.mono BB.out.size)); obtain ⟨a_XA, c_XA, e⟩ := h.form; subst e; have XA := Lib.hid h; replace XU := Lib.hid (XU.out.below hb); clear h hb)
              | (go_at_call 8; (with_reducible refine (P15.out _ BB.out).mono ?_); rintro e w' ⟨v, rfl, h, hb⟩; replace BB := Lib.hid (BB.out.trans (hb.mono BB.out.size)); obtain ⟨a_XB, c_XB, e⟩ := h.form; subst e; have XB := Lib.hid h; replace XU := Lib.hid (XU.out.below hb); replace XA := Lib.hid (XA.out.below hb); clear h hb)
              | (go_at_call 7; (with_reducible refine (CI2.out _ _ _ XA.out XB.out).mono ?_); rintro e w' ⟨rfl, hb⟩; replace BB := Lib.hid (BB.out.trans (hb.mono BB.out.size)); replace XU := Lib.hid (XU.out.below hb); clear hb))
            clear P1 P2 P3 P4 P5 P6 P7 P8 P9 CI XX XY XZ XV XW
            go_wp2_with (go_at_call 14; (with_reducible refine (PA.out _ _ _ BB.out XU.out PM).mono ?_); rintro e wT ⟨rfl, hb⟩; replace BB := Lib.hid (BB.out.trans (hb.mono BB.out.size)); replace XU := Lib.hid (XU.out.below hb); clear hb)
            go_loopw [11, 12, 13] (fun tv nv sv wr => ∃ k : Nat, k ≤ F.length ∧ nv = .int .i64 (abvL U (nextA (setL U) (-9223372036854775808) k)).1 ∧ sv = .bool (abvL U (nextA (setL U) (-9223372036854775808) k)).2 ∧ OwnI wr wT.heap.size tv (F.take k) ∧ Below wT.heap.size wT wr) (fun tv _ _ _ => F.length - slen tv)
            case atStart => exact ⟨0, by omega, rfl, rfl, OwnR.nil _ _ _ _ _, Below.refl _ _⟩
            case round =>
              obtain ⟨k, hk, hn, hs, ho, hB⟩ := hrel
              have HBk := Lib.hid hB
              have hTl : (F.take k).length = k := by rw [List.length_take]; omega
              by_cases hlt : k < F.length
              · have HLT := Lib.hid hlt
                have hab := HAB.out k hlt
                rw [hab] at hn hs
                simp only at hn hs
                have hnx : F.take (k + 1) = F.take k ++ [F[k]'hlt] := List.take_succ_eq_append_getElem hlt
                have hns := HNS.out k hlt
                have hbx := HBX.out _ (List.getElem_mem hlt)
                generalize F[k]'hlt = x at *
                generalize F.take k = T at *
                subst hn hs
                have HO := Lib.hid ho
                have HNX := Lib.hid hnx
                have HNS2 := Lib.hid hns
                have HTL := Lib.hid hTl
                obtain ⟨aT, cT, e⟩ := RowsAt.form (OwnR.rows csI_len ho)
                subst e
                have G := Lib.hid fun w' (h : Below wT.heap.size wT w') => PA.out x _ w' (BB.out.trans (h.mono BB.out.size)) (XU.out.below h) hbx
                have hk1 : (T.length : Int) ≤ (U.length : Int) := by have := HFU.out; omega
                clear hab ho hB hnx hns hbx hTl
                go_wp2_with (first
                  | (at_builtin; refine app1 HO.out HBk.out.size (by have := HTL.out; have := HFL.out; have := HLT.out; omega) rfl _ _ rfl rfl rfl ?_; intro v6 w6 o6 b6; have HO6 := Lib.hid o6; have HB6 := Lib.hid (HBk.out.trans b6); obtain ⟨a6, c6, e6⟩ := RowsAt.form (OwnR.rows csI_len o6); rw [List.length_append, List.length_singleton] at e6; subst e6; clear o6 b6)
                  | (go_at_call 14; (with_reducible refine (G.out _ HB6.out).mono ?_); rintro e w8 ⟨rfl, hb⟩; have HB8 := Lib.hid (HB6.out.trans (hb.mono HB6.out.size)); have HO8 := Lib.hid (OwnR.kept HO6.out hb); clear hb))
                go_roundw
                case rel => exact ⟨k + 1, by have := HLT.out; omega, by rw [HNS2.out], by rw [HNS2.out], by rw [HNX.out]; exact HO8.out, HB8.out⟩
                case measure => have := HLT.out; have := HTL.out; simp [slen]; omega
              · have hke : k = F.length := by omega
                subst hke
                rw [HAE.out] at hn hs
                simp only at hn hs
                subst hn hs
                rw [List.take_length] at ho
                have HO := Lib.hid ho
                obtain ⟨aT, cT, e⟩ := RowsAt.form (OwnR.rows csI_len ho)
                subst e
                have BB2 := Lib.hid (BB.out.trans (hB.mono BB.out.size))
                have XU2 := Lib.hid (XU.out.below hB)
                have GI := refInts_any _ _ F U _ (OwnI.ints ho) (XU.out.below hB) (by have := HFL.out; omega) (by have := HUL.out; omega)
                by_cases hfu : F = U
                · rw [decide_eq_true hfu] at GI
                  have GI2 := Lib.hid GI
                  clear GI hfu ho hB hlt hTl
                  go_wp2_with (first
                    | (go_at_call 7; (with_reducible refine GI2.out.mono ?_); rintro e w' ⟨rfl, hb⟩; replace BB2 := Lib.hid (BB2.out.trans (hb.mono BB2.out.size)); clear hb)
                    | (go_at_call 6; (with_reducible refine (HAL.out _).mono ?_); rintro e w' ⟨rfl, hb⟩; replace BB2 := Lib.hid (BB2.out.trans (hb.mono BB2.out.size)); clear hb))
                  go_ret
                  exact ⟨rfl, BB2.out⟩
                · rw [decide_eq_false hfu] at GI
                  have GI2 := Lib.hid GI
                  have hin := HIN.out hfu
                  have GH := Lib.hid fun v w' (h : Below w.heap.size w w') hu => PH.out v w' h hu
                  rw [hin] at GH
                  clear GI hfu ho hB hlt hTl hin
                  go_wp2_with (first
                    | (go_at_call 7; (with_reducible refine GI2.out.mono ?_); rintro e w' ⟨rfl, hb⟩; replace BB2 := Lib.hid (BB2.out.trans (hb.mono BB2.out.size)); replace XU2 := Lib.hid (XU2.out.below hb); clear hb)
                    | (go_at_call 12; (with_reducible refine (GH.out _ _ BB2.out XU2.out).mono ?_); rintro e w' ⟨rfl, hb⟩; replace BB2 := Lib.hid (BB2.out.trans (hb.mono BB2.out.size)); clear hb)
                    | (go_at_call 6; (with_reducible refine (HAL.out _).mono ?_); rintro e w' ⟨rfl, hb⟩; replace BB2 := Lib.hid (BB2.out.trans (hb.mono BB2.out.size)); clear hb))
                  go_ret
                  exact ⟨rfl, BB2.out⟩
      · have g3 : (40 : Int) < (c.length : Int) := by omega
        clear ha hb hc HLENS
        go_enter Try.func5, Try.ntmps5
        go_wp2_with (go_at_call 6; (with_reducible refine (HAL.out _).mono ?_); rintro e w7 ⟨rfl, hb⟩)
        go_ret
        exact ⟨rfl, hb⟩
    · have g2 : (40 : Int) < (b.length : Int) := by omega
      clear ha hb hc HLENS
      go_enter Try.func5, Try.ntmps5
      go_wp2_with (go_at_call 6; (with_reducible refine (HAL.out _).mono ?_); rintro e w7 ⟨rfl, hb⟩)
      go_ret
      exact ⟨rfl, hb⟩
  · have g1 : (40 : Int) < (a.length : Int) := by omega
    clear ha hb hc HLENS
    go_enter Try.func5, Try.ntmps5
    go_wp2_with (go_at_call 6; (with_reducible refine (HAL.out _).mono ?_); rintro e w7 ⟨rfl, hb⟩)
    go_ret
    exact ⟨rfl, hb⟩
end Go.Proofs.Ytgkhjnfkpodddaa
