/- Stage 16: the document's Reach. -/
import Derived.Test.YtnfdhlkngjplkaaGraphRefB
namespace Go.Proofs.Ytnfdhlkngjplkaa
open Go.RowKit

set_option maxHeartbeats 16000000 in
set_option maxRecDepth 100000 in
theorem refReach_any (va vb vf : Value) (l : List Int) (arcs : List Arc16) (frm : List Int) (W : World) (ha : IntsAt W va l) (hb : ArcsAt W vb arcs) (hf : IntsAt W vf frm) (hl : l.length ≤ 1000) (hl2 : arcs.length ≤ 1000) (hl3 : frm.length ≤ 1000) :
    Calls Try.prog 14 #[va, vb, vf] W fun e w' => ∃ v, e = .returned v ∧ OwnI w' W.heap.size v (reachL l arcs frm) ∧ Below W.heap.size W w' := by
  have GS := Lib.hid (refSet_any va l W ha (by omega))
  have HA0 := Lib.hid hb
  have HF0 := Lib.hid hf
  obtain ⟨a0, c0, rfl⟩ := IntsAt.form ha
  obtain ⟨b0, d0, rfl⟩ := RowsAt.form hb
  obtain ⟨f0, g0, rfl⟩ := IntsAt.form hf
  have hnl := setL_le l
  have hst := startR_told l frm
  have hrl : reachL l arcs frm = setL (itR (setL l) arcs (setL l).length (startR l frm)) := rfl
  have hsf : startR l frm = (setL l).filter fun n => inL frm n := rfl
  obtain ⟨R, hR⟩ : ∃ R, reachL l arcs frm = R := ⟨_, rfl⟩
  rw [hR] at hrl ⊢
  clear hR
  generalize startR l frm = S0 at *
  generalize setL l = N at *
  have HRL := Lib.hid hrl
  have HSF := Lib.hid hsf
  have HST := Lib.hid hst
  have HNL := Lib.hid (show N.length ≤ 1000 by omega)
  have HAL := Lib.hid hl2
  have HFL := Lib.hid hl3
  clear ha hb hf hrl hsf hst hnl
  go_enter Try.func14, Try.ntmps14
  go_wp2_with (go_at_call 17; (with_reducible refine GS.out.mono ?_); rintro e w1 ⟨vn, rfl, hn, hbn⟩; obtain ⟨an, cn, e⟩ := RowsAt.form (OwnR.rows csI_len hn); subst e; have HN := Lib.hid (OwnI.ints hn); have HA := Lib.hid (RowsAt.kept HA0.out hbn); have HF := Lib.hid (IntsAt.below HF0.out hbn); have HB1 := Lib.hid hbn; clear hn hbn)
  clear HA0 HF0 GS
  go_loopw [8, 9] (fun tv iv wr => ∃ i : Nat, i ≤ N.length ∧ iv = .int .i64 i ∧ OwnI wr w1.heap.size tv ((N.take i).filter fun n => inL frm n) ∧ Below w1.heap.size w1 wr) (fun _ iv _ => N.length - (intOf iv).toNat)
  case atStart => exact ⟨0, by omega, rfl, OwnR.nil _ _ _ _ _, Below.refl _ _⟩
  case round =>
    obtain ⟨i, hi, rfl, ho, hB⟩ := hrel
    have HO3 := Lib.hid ho
    have HB3 := Lib.hid hB
    by_cases hlt : i < N.length
    · obtain ⟨g, o, cc, e, hlc, hg, p0⟩ := (IntsAt.below HN.out hB).spot i hlt
      cases e
      have HLT := Lib.hid hlt
      have K0 : (0 : Int) ≤ (i : Int) := by omega
      have K1 : (i : Int) < (N.length : Int) := by omega
      have K2 : (i : Int) ≤ 1000 := by have := HNL.out; omega
      have GI := refIn_any (.slice f0 frm.length g0) frm (N[i]'hlt) wr (IntsAt.below HF.out hB) (by have := HFL.out; omega)
      have hnx : (N.take (i + 1)).filter (fun n => inL frm n) = (N.take i).filter (fun n => inL frm n) ++ (if inL frm (N[i]'hlt) then [N[i]'hlt] else []) := by
        rw [List.take_succ_eq_append_getElem hlt, List.filter_append]
        congr 1
        cases h : inL frm (N[i]'hlt) <;> simp [h]
      have hfl : ((N.take i).filter fun n => inL frm n).length ≤ 1000 := Nat.le_trans (List.length_filter_le _ _) (by rw [List.length_take]; have := HNL.out; omega)
      generalize N[i]'hlt = x at *
      have HFL2 := Lib.hid hfl
      clear ho hB hfl
      cases hin : inL frm x with
      | false =>
        rw [hin] at GI hnx
        rw [if_neg (by simp), List.append_nil] at hnx
        have GI2 := Lib.hid GI
        have HNX := Lib.hid hnx
        clear GI hnx hin
        go_wp2_with (go_at_call 22; (with_reducible refine GI2.out.mono ?_); rintro e w3 ⟨rfl, rfl⟩)
        go_roundw
        case rel => exact ⟨i + 1, by have := HLT.out; omega, by go_num, by rw [HNX.out]; exact HO3.out, HB3.out⟩
        case measure => have := HLT.out; simp [intOf] <;> omega
      | true =>
        rw [hin] at GI hnx
        rw [if_pos rfl] at hnx
        have GI2 := Lib.hid GI
        have HNX := Lib.hid hnx
        clear GI hnx hin
        generalize (N.take i).filter (fun n => inL frm n) = T at *
        obtain ⟨aT, cT, e⟩ := RowsAt.form (OwnR.rows csI_len HO3.out)
        subst e
        go_wp2_with (first
          | (go_at_call 22; (with_reducible refine GI2.out.mono ?_); rintro e w3 ⟨rfl, rfl⟩)
          | (at_builtin; refine app1 HO3.out HB3.out.size (by have := HFL2.out; omega) rfl _ _ rfl rfl rfl ?_; intro v6 w6 o6 b6; have HO6 := Lib.hid o6; have HB6 := Lib.hid (HB3.out.trans b6); clear o6 b6 p0))
        go_roundw
        case rel => exact ⟨i + 1, by have := HLT.out; omega, by go_num, by rw [HNX.out]; exact HO6.out, HB6.out⟩
        case measure => have := HLT.out; simp [intOf] <;> omega
    · have hke : i = N.length := by omega
      subst hke
      rw [List.take_length, ← HSF.out] at HO3
      clear ho hB hlt hi
      obtain ⟨aT, cT, e⟩ := RowsAt.form (OwnR.rows csI_len HO3.out)
      subst e
      go_wp2
      generalize wr = wr0 at *
      go_loopw [8, 10, 11] (fun tv nv _ wr => ∃ n : Nat, n ≤ N.length ∧ nv = .int .i64 n ∧ OwnI wr w1.heap.size tv (itR N arcs n S0) ∧ Below w1.heap.size w1 wr) (fun _ nv _ _ => N.length - (intOf nv).toNat)
      case atStart => exact ⟨0, by omega, rfl, HO3.out, HB3.out⟩
      case round =>
        obtain ⟨n, hn, rfl, ho, hB⟩ := hrel
        have HOn := Lib.hid ho
        have HBn := Lib.hid hB
        have htn := itR_told (arcs := arcs) HST.out n
        have hitn : itR N arcs (n + 1) S0 = rowR N arcs (itR N arcs n S0) := rfl
        by_cases hlt : n < N.length
        · generalize itR N arcs n S0 = On at *
          have HTN := Lib.hid htn
          have HIT := Lib.hid hitn
          have HLT := Lib.hid hlt
          have K0 : (0 : Int) ≤ (n : Int) := by omega
          have K1 : (n : Int) < (N.length : Int) := by omega
          have K2 : (n : Int) ≤ 1000 := by have := HNL.out; omega
          obtain ⟨a1, c1, e⟩ := RowsAt.form (OwnR.rows csI_len HOn.out)
          subst e
          clear ho hB htn hitn
          go_wp2
          generalize wr = wr1 at *
          go_loopw [8, 11] (fun tv kv wr => ∃ k : Nat, k ≤ arcs.length ∧ kv = .int .i64 k ∧ OwnI wr w1.heap.size tv (rowR N (arcs.take k) On) ∧ Below w1.heap.size w1 wr) (fun _ kv _ => arcs.length - (intOf kv).toNat)
          case atStart => exact ⟨0, by omega, rfl, HOn.out, HBn.out⟩
          case round =>
            obtain ⟨k, hk, rfl, ho, hB⟩ := hrel
            have HOk := Lib.hid ho
            have HBk := Lib.hid hB
            by_cases hk2 : k < arcs.length
            · have htk := rowR_told (arcs.take k) On HTN.out
              have hnx := rowR_take N arcs On k hk2
              obtain ⟨g, o, cc, e, hlc, hg, q0, q1⟩ := ArcsAt.at (RowsAt.kept HA.out hB) k hk2
              cases e
              generalize rowR N (arcs.take k) On = T at *
              generalize arcs[k]'hk2 = x at *
              obtain ⟨xs, xd⟩ := x
              simp only at q0 q1 hnx
              have htl := htk.len
              have HK2 := Lib.hid hk2
              have J0 : (0 : Int) ≤ (k : Int) := by omega
              have J1 : (k : Int) < (arcs.length : Int) := by omega
              have J2 : (k : Int) ≤ 1000 := by have := HAL.out; omega
              have HTL := Lib.hid (show T.length ≤ 1000 by have := HNL.out; omega)
              obtain ⟨aT, cT, e⟩ := RowsAt.form (OwnR.rows csI_len HOk.out)
              subst e
              have G1 := refIn_any (.slice aT T.length cT) T xs wr (OwnI.ints ho) (by have := HTL.out; omega)
              have G2 := refIn_any (.slice an N.length cn) N xd wr (IntsAt.below HN.out hB) (by have := HNL.out; omega)
              have G3 := refIn_any (.slice aT T.length cT) T xd wr (OwnI.ints ho) (by have := HTL.out; omega)
              unfold stepR at hnx
              simp only at hnx
              clear ho hB htk htl
              cases h1 : inL T xs with
              | false =>
                rw [h1] at G1 hnx
                rw [if_neg (by simp)] at hnx
                have G1h := Lib.hid G1
                have HNX := Lib.hid hnx
                clear G1 G2 G3 hnx h1
                go_wp2_with (go_at_call 22; (with_reducible refine G1h.out.mono ?_); rintro e w3 ⟨rfl, rfl⟩)
                go_roundw
                case rel => exact ⟨k + 1, by have := HK2.out; omega, by go_num, by rw [HNX.out]; exact HOk.out, HBk.out⟩
                case measure => have := HK2.out; simp [intOf] <;> omega
              | true =>
                rw [h1] at G1 hnx
                cases h2 : inL N xd with
                | false =>
                  rw [h2] at G2 hnx
                  rw [if_neg (by simp)] at hnx
                  have G1h := Lib.hid G1
                  have G2h := Lib.hid G2
                  have HNX := Lib.hid hnx
                  clear G1 G2 G3 hnx h1 h2
                  go_wp2_with (first
                    | (go_at_call 22; (with_reducible refine G1h.out.mono ?_); rintro e w3 ⟨rfl, rfl⟩)
                    | (go_at_call 22; (with_reducible refine G2h.out.mono ?_); rintro e w3 ⟨rfl, rfl⟩))
                  go_roundw
                  case rel => exact ⟨k + 1, by have := HK2.out; omega, by go_num, by rw [HNX.out]; exact HOk.out, HBk.out⟩
                  case measure => have := HK2.out; simp [intOf] <;> omega
                | true =>
                  rw [h2] at G2 hnx
                  cases h3 : inL T xd with
                  | true =>
                    rw [h3] at G3 hnx
                    rw [if_neg (by simp)] at hnx
                    have G1h := Lib.hid G1
                    have G2h := Lib.hid G2
                    have G3h := Lib.hid G3
                    have HNX := Lib.hid hnx
                    clear G1 G2 G3 hnx h1 h2 h3
                    go_wp2_with (first
                      | (go_at_call 22; (with_reducible refine G1h.out.mono ?_); rintro e w3 ⟨rfl, rfl⟩)
                      | (go_at_call 22; (with_reducible refine G2h.out.mono ?_); rintro e w3 ⟨rfl, rfl⟩)
                      | (go_at_call 22; (with_reducible refine G3h.out.mono ?_); rintro e w3 ⟨rfl, rfl⟩))
                    go_roundw
                    case rel => exact ⟨k + 1, by have := HK2.out; omega, by go_num, by rw [HNX.out]; exact HOk.out, HBk.out⟩
                    case measure => have := HK2.out; simp [intOf] <;> omega
                  | false =>
                    rw [h3] at G3 hnx
                    rw [if_pos (by simp)] at hnx
                    have G1h := Lib.hid G1
                    have G2h := Lib.hid G2
                    have G3h := Lib.hid G3
                    have HNX := Lib.hid hnx
                    clear G1 G2 G3 hnx h1 h2 h3
                    go_wp2_with (first
                      | (go_at_call 22; (with_reducible refine G1h.out.mono ?_); rintro e w3 ⟨rfl, rfl⟩)
                      | (go_at_call 22; (with_reducible refine G2h.out.mono ?_); rintro e w3 ⟨rfl, rfl⟩)
                      | (go_at_call 22; (with_reducible refine G3h.out.mono ?_); rintro e w3 ⟨rfl, rfl⟩)
                      | (at_builtin; refine app1 HOk.out HBk.out.size (by have := HTL.out; omega) rfl _ _ rfl rfl rfl ?_; intro v6 w6 o6 b6; have HO6 := Lib.hid o6; have HB6 := Lib.hid (HBk.out.trans b6); clear o6 b6 q0 q1))
                    go_roundw
                    case rel => exact ⟨k + 1, by have := HK2.out; omega, by go_num, by rw [HNX.out]; exact HO6.out, HB6.out⟩
                    case measure => have := HK2.out; simp [intOf] <;> omega
            · have hke : k = arcs.length := by omega
              subst hke
              rw [List.take_length, ← HIT.out] at HOk
              clear ho hB hk2
              go_wp2
              go_roundw
              case rel => exact ⟨n + 1, by have := HLT.out; omega, by go_num, HOk.out, HBk.out⟩
              case measure => have := HLT.out; simp [intOf] <;> omega
        · have hke : n = N.length := by omega
          subst hke
          have htl := htn.len
          generalize itR N arcs N.length S0 = On at *
          have GE := Lib.hid (refSet_any _ On wr (OwnI.ints ho) (by have := HNL.out; omega))
          obtain ⟨a1, c1, e⟩ := RowsAt.form (OwnR.rows csI_len ho)
          subst e
          rw [← HRL.out] at GE
          clear ho hB htn hitn htl
          go_wp2_with (go_at_call 17; (with_reducible refine GE.out.mono ?_); rintro e w7 ⟨v7, rfl, h7, hb7⟩; have H7 := Lib.hid h7; have HB7 := Lib.hid (HBn.out.trans (hb7.mono HBn.out.size)); clear h7 hb7)
          go_ret
          exact ⟨_, rfl, H7.out.base13 (Nat.le_trans HB1.out.size HBn.out.size), HB1.out.trans (HB7.out.mono HB1.out.size)⟩
end Go.Proofs.Ytnfdhlkngjplkaa
