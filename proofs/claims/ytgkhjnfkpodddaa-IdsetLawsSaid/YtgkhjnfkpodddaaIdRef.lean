/- Stage 17: the document's Right, Or, And, Less, Above. -/
import Derived.Test.YtgkhjnfkpodddaaRefSet
import Derived.Test.YtgkhjnfkpodddaaIdMath
namespace Go.Proofs.Ytgkhjnfkpodddaa
open Go.RowKit

set_option maxHeartbeats 4000000 in
set_option maxRecDepth 100000 in
theorem refRight_any (va : Value) (l : List Int) (W : World) (ha : IntsAt W va l) (hl : l.length ≤ 1000) :
    Calls Try.prog 11 #[va] W fun e w' => e = .returned (.bool (rightB l)) ∧ Below W.heap.size W w' := by
  have HA := Lib.hid ha
  obtain ⟨a, c, rfl⟩ := IntsAt.form ha
  obtain ⟨t, ht⟩ : ∃ t, rightB l = t := ⟨_, rfl⟩
  rw [ht]
  have HT := Lib.hid ht
  have HL := Lib.hid hl
  clear ha ht
  go_enter Try.func11, Try.ntmps11
  go_wp2
  go_loopw [3] (fun iv wr => ∃ k : Nat, iv = .int .i64 ((k : Int) + 1) ∧ k + 1 ≤ max 1 l.length ∧ (∀ i (h : i + 1 < l.length), i < k → l[i] < l[i + 1]) ∧ Below W.heap.size W wr) (fun iv _ => l.length + 1 - (intOf iv).toNat)
  case atStart => exact ⟨0, rfl, by omega, fun i _ h => absurd h (by omega), Below.refl _ _⟩
  case round =>
    obtain ⟨k, rfl, hk, hup, hB⟩ := hrel
    have HUP := Lib.hid hup
    have HB := Lib.hid hB
    by_cases hlt : k + 1 < l.length
    · obtain ⟨g, o, _, e, hlc, _, p1⟩ := (IntsAt.below HA.out hB).spot (k + 1) hlt
      cases e
      obtain ⟨_, _, _, e, _, _, p0⟩ := (IntsAt.below HA.out hB).spot k (by omega)
      cases e
      have HLT := Lib.hid hlt
      have K0 : (0 : Int) ≤ (k : Int) := by omega
      have K1 : (k : Int) + 1 < (l.length : Int) := by omega
      have K2 : (k : Int) ≤ 1000 := by omega
      have K3 : (k : Int) < (l.length : Int) := by omega
      have hno := fun h => ris_no k hlt h
      obtain ⟨x, hx⟩ : ∃ x, l[k]'(by omega) = x := ⟨_, rfl⟩
      obtain ⟨y, hy⟩ : ∃ y, l[k + 1]'hlt = y := ⟨_, rfl⟩
      rw [hx] at p0 hno
      rw [hy] at p1 hno
      have hstep : x < y → ∀ i (h : i + 1 < l.length), i < k + 1 → l[i] < l[i + 1] := fun hxy i h hi => by
        by_cases e : i = k
        · subst e
          rw [hx, hy]
          exact hxy
        · exact hup i h (by omega)
      have HST := Lib.hid hstep
      have HNO := Lib.hid hno
      have N1 : ((k : Int) + 1).toNat = k + 1 := by omega
      clear hup hB hno hstep hx hy hk
      by_cases hle : y ≤ x
      · have HF := Lib.hid (show false = t by rw [← HT.out]; exact (decide_eq_false (HNO.out hle)).symm)
        have G := Lib.hid (show decide (y ≤ x) = true by simp; omega)
        clear hle
        go_wp2
        have g1 := G.out
        refine wp_region_calm0 (by kernel_rfl) (by kernel_rfl) fun M => ?_
        have e0 := fun n : In M.w => n.cell (M.cell p0)
        have e1 := fun n : In M.w => n.cell (M.cell p1)
        repeat (go_big_quiet_step (fail))
        refine wpQuiet_nil ?_
        clear e0 e1 M p0 p1
        intro w2 hb2
        go_wp2
        go_ret
        exact ⟨ret_b HF.out, HB.out.trans (hb2.mono HB.out.size)⟩
      · have G := Lib.hid (show decide (y ≤ x) = false by simp; omega)
        have HUP2 := Lib.hid (HST.out (by omega))
        clear hle
        go_wp2
        have g1 := G.out
        refine wp_region_calm0 (by kernel_rfl) (by kernel_rfl) fun M => ?_
        have e0 := fun n : In M.w => n.cell (M.cell p0)
        have e1 := fun n : In M.w => n.cell (M.cell p1)
        repeat (go_big_quiet_step (fail))
        refine wpQuiet_nil ?_
        clear e0 e1 M p0 p1
        intro w2 hb2
        have HB2 := Lib.hid (HB.out.trans (hb2.mono HB.out.size))
        clear hb2
        go_wp2
        go_roundw
        case rel => exact ⟨k + 1, by go_num, by have := HLT.out; omega, HUP2.out, HB2.out⟩
        case measure => have := HLT.out; simp [intOf]; omega
    · have hend : risL l := ris_adj fun i h => hup i h (by omega)
      have HF := Lib.hid (show true = t by rw [← HT.out]; exact (decide_eq_true hend).symm)
      have K1 : ¬ (k : Int) + 1 < (l.length : Int) := by omega
      clear hup hB hend hk
      go_wp2
      go_ret
      exact ⟨ret_b HF.out, HB.out⟩

set_option maxHeartbeats 8000000 in
set_option maxRecDepth 100000 in
theorem refPick_any (va vb : Value) (l b : List Int) (is : Bool) (W : World) (ha : IntsAt W va l) (hb : IntsAt W vb b) (hl : l.length ≤ 1000) (hl2 : b.length ≤ 1000) :
    Calls Try.prog 34 #[va, vb, .bool is] W fun e w' => ∃ v, e = .returned v ∧ OwnI w' W.heap.size v (pickL l b is) ∧ Below W.heap.size W w' := by
  have GS := Lib.hid (refSet_any va l W ha (by omega))
  have HB0 := Lib.hid hb
  obtain ⟨a0, c0, rfl⟩ := IntsAt.form ha
  obtain ⟨b0, d0, rfl⟩ := IntsAt.form hb
  have hnl := setL_le l
  have hlf : pickL l b is = (setL l).filter fun n => inL b n == is := rfl
  obtain ⟨R, hR⟩ : ∃ R, pickL l b is = R := ⟨_, rfl⟩
  rw [hR] at hlf ⊢
  clear hR
  generalize setL l = N at *
  have HLF := Lib.hid hlf
  have HNL := Lib.hid (show N.length ≤ 1000 by omega)
  have HBL := Lib.hid hl2
  clear ha hb hlf hnl
  go_enter Try.func34, Try.ntmps34
  go_wp2_with (go_at_call 9; (with_reducible refine GS.out.mono ?_); rintro e w2 ⟨vn, rfl, hn, hbn⟩; obtain ⟨an, cn, e⟩ := RowsAt.form (OwnR.rows csI_len hn); subst e; have HN2 := Lib.hid (OwnI.ints hn); have HB2 := Lib.hid hbn; have HO := Lib.hid (IntsAt.below HB0.out hbn); clear hn hbn)
  go_loopw [8, 9] (fun tv iv wr => ∃ i : Nat, i ≤ N.length ∧ iv = .int .i64 i ∧ OwnI wr w2.heap.size tv ((N.take i).filter fun n => inL b n == is) ∧ Below w2.heap.size w2 wr) (fun _ iv _ => N.length - (intOf iv).toNat)
  case atStart => exact ⟨0, by omega, rfl, OwnR.nil _ _ _ _ _, Below.refl _ _⟩
  case round =>
    obtain ⟨i, hi, rfl, ho, hB⟩ := hrel
    have HO3 := Lib.hid ho
    have HB3 := Lib.hid hB
    by_cases hlt : i < N.length
    · obtain ⟨g, o, cc, e, hlc, hg, p0⟩ := (IntsAt.below HN2.out hB).spot i hlt
      cases e
      have HLT := Lib.hid hlt
      have K0 : (0 : Int) ≤ (i : Int) := by omega
      have K1 : (i : Int) < (N.length : Int) := by omega
      have K2 : (i : Int) ≤ 1000 := by have := HNL.out; omega
      have GI := refIn_any (.slice b0 b.length d0) b (N[i]'hlt) wr (IntsAt.below HO.out hB) (by have := HBL.out; omega)
      have hnx : (N.take (i + 1)).filter (fun n => inL b n == is) = (N.take i).filter (fun n => inL b n == is) ++ (if inL b (N[i]'hlt) == is then [N[i]'hlt] else []) := by
        rw [List.take_succ_eq_append_getElem hlt, List.filter_append]
        congr 1
        cases h : inL b (N[i]'hlt) <;> cases is <;> simp [h]
      have hfl : ((N.take i).filter fun n => inL b n == is).length ≤ 1000 := Nat.le_trans (List.length_filter_le _ _) (by rw [List.length_take]; have := HNL.out; omega)
      generalize N[i]'hlt = x at *
      have HFL := Lib.hid hfl
      clear ho hB hfl
      generalize inL b x = t at *
      have GI2 := Lib.hid GI
      clear GI
      by_cases hti : t = is
      · subst hti
        rw [if_pos (by simp)] at hnx
        have HNX := Lib.hid hnx
        clear hnx
        generalize (N.take i).filter (fun n => inL b n == t) = T at *
        obtain ⟨aT, cT, e⟩ := RowsAt.form (OwnR.rows csI_len HO3.out)
        subst e
        go_wp2_with (first
          | (go_at_call 13; (with_reducible refine GI2.out.mono ?_); rintro e w3 ⟨rfl, rfl⟩)
          | (at_builtin; refine app1 HO3.out HB3.out.size (by have := HFL.out; omega) rfl _ _ rfl rfl rfl ?_; intro v6 w6 o6 b6; have HO6 := Lib.hid o6; have HB6 := Lib.hid (HB3.out.trans b6); clear o6 b6 p0))
        go_roundw
        case rel => exact ⟨i + 1, by have := HLT.out; omega, by go_num, by rw [HNX.out]; exact HO6.out, HB6.out⟩
        case measure => have := HLT.out; simp [intOf] <;> omega
      · have g1 : (t == is) = false := by cases t <;> cases is <;> simp at hti ⊢
        rw [if_neg (by simp [hti]), List.append_nil] at hnx
        have HNX := Lib.hid hnx
        clear hnx hti
        go_wp2_with (go_at_call 13; (with_reducible refine GI2.out.mono ?_); rintro e w3 ⟨rfl, rfl⟩)
        go_roundw
        case rel => exact ⟨i + 1, by have := HLT.out; omega, by go_num, by rw [HNX.out]; exact HO3.out, HB3.out⟩
        case measure => have := HLT.out; simp [intOf] <;> omega
    · have hke : i = N.length := by omega
      subst hke
      rw [List.take_length, ← HLF.out] at HO3
      clear ho hB hlt
      go_wp2
      go_ret
      exact ⟨_, rfl, HO3.out.base13 HB2.out.size, HB2.out.trans (HB3.out.mono HB2.out.size)⟩

set_option maxHeartbeats 2000000 in
theorem refAnd_any (va vb : Value) (l b : List Int) (W : World) (ha : IntsAt W va l) (hb : IntsAt W vb b) (hl : l.length ≤ 1000) (hl2 : b.length ≤ 1000) :
    Calls Try.prog 19 #[va, vb] W fun e w' => ∃ v, e = .returned v ∧ OwnI w' W.heap.size v (andL l b) ∧ Below W.heap.size W w' := by
  have G := Lib.hid (refPick_any va vb l b true W ha hb hl hl2)
  clear ha hb
  go_enter Try.func19, Try.ntmps19
  go_wp2_with (go_at_call 34; (with_reducible refine G.out.mono ?_); rintro e w2 ⟨v, rfl, h, hb⟩)
  go_ret
  exact ⟨_, rfl, h, hb⟩
set_option maxHeartbeats 2000000 in
theorem refLess_any (va vb : Value) (l b : List Int) (W : World) (ha : IntsAt W va l) (hb : IntsAt W vb b) (hl : l.length ≤ 1000) (hl2 : b.length ≤ 1000) :
    Calls Try.prog 21 #[va, vb] W fun e w' => ∃ v, e = .returned v ∧ OwnI w' W.heap.size v (lessL l b) ∧ Below W.heap.size W w' := by
  have G := Lib.hid (refPick_any va vb l b false W ha hb hl hl2)
  clear ha hb
  go_enter Try.func21, Try.ntmps21
  go_wp2_with (go_at_call 34; (with_reducible refine G.out.mono ?_); rintro e w2 ⟨v, rfl, h, hb⟩)
  go_ret
  exact ⟨_, rfl, h, hb⟩

set_option maxHeartbeats 4000000 in
set_option maxRecDepth 100000 in
theorem refOr_any (va vb : Value) (l b : List Int) (W : World) (ha : IntsAt W va l) (hb : IntsAt W vb b) (hl : l.length ≤ 1000) (hl2 : b.length ≤ 1000) :
    Calls Try.prog 17 #[va, vb] W fun e w' => ∃ v, e = .returned v ∧ OwnI w' W.heap.size v (orL l b) ∧ Below W.heap.size W w' := by
  obtain ⟨i0, hi, hz0, hz1, hz2⟩ := info_parts info_int
  have hal := (Below.refl W.heap.size W).alloc (Nat.le_refl _) (.cells #[] 3)
  have HO := Lib.hid (OwnR.empty W 1 csI 3 W.heap.size rfl)
  have HB := Lib.hid hal
  have HA := Lib.hid (RowsAt.kept (IntsAt.rows ha) hal)
  have HBK := Lib.hid fun w' (h : Below W.heap.size W w') => RowsAt.kept (IntsAt.rows hb) h
  have HL := Lib.hid hl
  have HL2 := Lib.hid hl2
  have hlen := or_len l b
  have ho : orL l b = setL (l ++ b) := rfl
  rw [ho]
  clear ha hb hal ho hlen
  go_enter Try.func17, Try.ntmps17
  go_wp2_with (first
    | (at_builtin; refine wpList_append_rows csI_len (by decide) csI_one13 rfl _ _ 22 rfl W.heap.size 3 i0 (.int .i64 0) 8 Try.underlying22 hi hz0 hz1 hz2 rfl _ _ rfl HO.out _ l rfl HA.out (by have := HL.out; unfold maxLen; simp; omega) (by have := HL.out; simp; omega) HB.out.size ?_; intro v2 w2 o2 g2; have HO2 := Lib.hid o2; have HB2 := Lib.hid (OwnR.below HO.out HB.out HB.out.size g2); clear o2 g2 HO)
    | (at_builtin; refine wpList_append_rows csI_len (by decide) csI_one13 rfl _ _ 22 rfl W.heap.size 3 i0 (.int .i64 0) 8 Try.underlying22 hi hz0 hz1 hz2 rfl _ _ rfl HO2.out _ b rfl (HBK.out _ HB2.out) (by have := HL.out; have := HL2.out; unfold maxLen; simp; omega) (by have := HL.out; have := HL2.out; simp; omega) HB2.out.size ?_; intro v3 w3 o3 g3; have HO3 := Lib.hid o3; have HB3 := Lib.hid (OwnR.below HO2.out HB2.out HB2.out.size g3); clear o3 g3)
    | (go_at_call 9; (with_reducible refine (refSet_any _ _ _ (OwnI.ints HO3.out) (by have := HL.out; have := HL2.out; simp; omega)).mono ?_); rintro e w4 ⟨v4, rfl, h, hb⟩))
  go_ret
  exact ⟨_, rfl, by simpa using h.base13 HB3.out.size, HB3.out.trans (hb.mono HB3.out.size)⟩

set_option maxHeartbeats 4000000 in
set_option maxRecDepth 100000 in
theorem refAbove_any (va : Value) (l : List Int) (n : Int) (W : World) (ha : IntsAt W va l) (hl : l.length ≤ 1000) :
    Calls Try.prog 15 #[va, .int .i64 n] W fun e w' => e = .returned (.tuple #[.int .i64 (abvL l n).1, .bool (abvL l n).2]) ∧ Below W.heap.size W w' := by
  have GS := Lib.hid (refSet_any va l W ha (by omega))
  obtain ⟨a0, c0, rfl⟩ := IntsAt.form ha
  have hnl := setL_le l
  have hab : abvL l n = match (setL l).find? fun x => decide (n < x) with | some x => (x, true) | none => (0, false) := rfl
  obtain ⟨⟨r1, r2⟩, hR⟩ : ∃ R, abvL l n = R := ⟨_, rfl⟩
  rw [hR] at hab ⊢
  clear hR
  simp only
  generalize setL l = N at *
  have HAB := Lib.hid hab
  have HNL := Lib.hid (show N.length ≤ 1000 by omega)
  clear ha hab hnl
  go_enter Try.func15, Try.ntmps15
  go_wp2_with (go_at_call 9; (with_reducible refine GS.out.mono ?_); rintro e w2 ⟨vn, rfl, hn, hbn⟩; obtain ⟨an, cn, e⟩ := RowsAt.form (OwnR.rows csI_len hn); subst e; have HN2 := Lib.hid (OwnI.ints hn); have HB2 := Lib.hid hbn; clear hn hbn)
  go_loopw [7] (fun iv wr => ∃ i : Nat, i ≤ N.length ∧ iv = .int .i64 i ∧ (∀ j (h : j < N.length), j < i → ¬ n < N[j]) ∧ w2 = wr) (fun iv _ => N.length - (intOf iv).toNat)
  case atStart => exact ⟨0, by omega, rfl, fun j _ h => absurd h (by omega), rfl⟩
  case round =>
    obtain ⟨i, hi, rfl, hno, rfl⟩ := hrel
    by_cases hlt : i < N.length
    · obtain ⟨g, o, cc, e, hlc, hg, p0⟩ := HN2.out.spot i hlt
      cases e
      have HLT := Lib.hid hlt
      have K0 : (0 : Int) ≤ (i : Int) := by omega
      have K1 : (i : Int) < (N.length : Int) := by omega
      have K2 : (i : Int) ≤ 1000 := by have := HNL.out; omega
      by_cases hx : n < N[i]'hlt
      · have hfd : N.find? (fun x => decide (n < x)) = some (N[i]'hlt) := by
          rw [List.find?_eq_some_iff_getElem]
          exact ⟨decide_eq_true hx, i, hlt, rfl, fun j hj => by have := hno j (by omega) hj; simpa using this⟩
        have hab := HAB.out
        rw [hfd] at hab
        simp only [Prod.mk.injEq] at hab
        obtain ⟨h1, h2⟩ := hab
        rw [← h1] at p0 hx
        have H2 := Lib.hid h2
        clear hfd hno h1 h2 hlt
        go_wp2
        exact bodyPost_ret (v := .tuple #[.int .i64 r1, .bool true]) (by simp [results, Try.results15, go_sem]) rfl ⟨by rw [H2.out], HB2.out⟩
      · have HNO := Lib.hid (show ∀ j (h : j < N.length), j < i + 1 → ¬ n < N[j] from fun j h hj => by
          by_cases e : j = i
          · subst e; exact hx
          · exact hno j h (by omega))
        generalize N[i]'hlt = x at *
        clear hno hlt
        go_wp2
        go_roundw
        case rel => exact ⟨i + 1, by have := HLT.out; omega, by go_num, HNO.out, by trivial⟩
        case measure => have := HLT.out; simp [intOf] <;> omega
    · have hke : i = N.length := by omega
      subst hke
      have hfd : N.find? (fun x => decide (n < x)) = none := by
        rw [List.find?_eq_none]
        intro x hx
        obtain ⟨j, hj, rfl⟩ := List.getElem_of_mem hx
        have := hno j hj hj
        simpa using this
      have hab := HAB.out
      rw [hfd] at hab
      simp only [Prod.mk.injEq] at hab
      obtain ⟨h1, h2⟩ := hab
      subst h1 h2
      clear hfd hno hlt
      go_wp2
      exact bodyPost_ret (v := .tuple #[.int .i64 0, .bool false]) (by simp [results, Try.results15, go_sem]) rfl ⟨rfl, HB2.out⟩
end Go.Proofs.Ytgkhjnfkpodddaa
