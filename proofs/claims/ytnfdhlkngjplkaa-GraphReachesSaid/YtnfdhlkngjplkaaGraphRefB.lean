/- Stage 16: the document's Order, Left. -/
import Derived.Test.YtnfdhlkngjplkaaRefSet
import Derived.Test.YtnfdhlkngjplkaaGraphMathC
namespace Go.Proofs.Ytnfdhlkngjplkaa
open Go.RowKit

def slen : Value → Nat
  | .slice _ n _ => n
  | _ => 0

set_option maxHeartbeats 8000000 in
set_option maxRecDepth 100000 in
theorem refOrder_any (va vb : Value) (l : List Int) (arcs : List Arc16) (W : World) (ha : IntsAt W va l) (hb : ArcsAt W vb arcs) (hl : l.length ≤ 1000) (hl2 : arcs.length ≤ 1000) :
    Calls Try.prog 9 #[va, vb] W fun e w' => ∃ v, e = .returned (.tuple #[v, .bool (decide ((ordL l arcs).length = (setL l).length))]) ∧ OwnI w' W.heap.size v (ordL l arcs) ∧ Below W.heap.size W w' := by
  have GS := Lib.hid (refSet_any va l W ha (by omega))
  have HA := Lib.hid hb
  obtain ⟨a0, c0, rfl⟩ := IntsAt.form ha
  obtain ⟨b0, d0, rfl⟩ := RowsAt.form hb
  have hnl := setL_le l
  have hord : ordL l arcs = ordG (setL l) arcs (setL l).length [] := rfl
  obtain ⟨R, hR⟩ : ∃ R, ordL l arcs = R := ⟨_, rfl⟩
  rw [hR] at hord ⊢
  clear hR
  generalize setL l = N at *
  obtain ⟨t, ht⟩ : ∃ t, decide (R.length = N.length) = t := ⟨_, rfl⟩
  rw [ht]
  have HTD := Lib.hid ht
  clear ht
  have HORD := Lib.hid hord
  have HL2 := Lib.hid hl2
  have HNL := Lib.hid (show N.length ≤ 1000 by omega)
  clear ha hb hord hnl
  go_enter Try.func9, Try.ntmps9
  go_wp2_with (go_at_call 17; (with_reducible refine GS.out.mono ?_); rintro e w1 ⟨vn, rfl, hn, hbn⟩; obtain ⟨an, cn, e⟩ := RowsAt.form (OwnR.rows csI_len hn); subst e; have HN := Lib.hid (OwnI.ints hn); have HB1 := Lib.hid hbn; have HAR := Lib.hid (RowsAt.kept HA.out hbn); clear hn hbn)
  go_loopw [7, 8] (fun tv iv wr => ∃ (i : Nat) (T : List Int), i ≤ N.length ∧ iv = .int .i64 i ∧ OwnI wr w1.heap.size tv T ∧ Below w1.heap.size w1 wr ∧ ToldI N T ∧ ordG N arcs (N.length - T.length) T = R ∧ ∀ j (_ : j < i) (h2 : j < N.length), nextB N arcs T N[j] = false) (fun tv iv _ => (N.length - slen tv) * (N.length + 1) + (N.length - (intOf iv).toNat))
  case atStart => exact ⟨0, [], by omega, rfl, OwnR.nil _ _ _ _ _, Below.refl _ _, ToldI.nil _, HORD.out.symm, fun j h => absurd h (by omega)⟩
  case round =>
    obtain ⟨i, T, hi, rfl, ho, hB, hti, hor, hpre⟩ := hrel
    have HO := Lib.hid ho
    have HB := Lib.hid hB
    have HTI := Lib.hid hti
    have HOR := Lib.hid hor
    have HPRE := Lib.hid hpre
    have htl := hti.len
    obtain ⟨aT, cT, e⟩ := RowsAt.form (OwnR.rows csI_len ho)
    subst e
    by_cases hlt : i < N.length
    · obtain ⟨g, o, cc, e, hlc, hg, p0⟩ := (IntsAt.below HN.out hB).spot i hlt
      cases e
      have HLT := Lib.hid hlt
      have K0 : (0 : Int) ≤ (i : Int) := by omega
      have K1 : (i : Int) < (N.length : Int) := by omega
      have K2 : (i : Int) ≤ 1000 := by have := HNL.out; omega
      have GI := refIn_any (.slice aT T.length cT) T (N[i]'hlt) wr (OwnI.ints ho) (by have := HNL.out; omega)
      have GF := refFree_any (.slice (some ⟨g, o, none⟩) N.length cn) (.slice b0 arcs.length d0) (.slice aT T.length cT) N arcs T (N[i]'hlt) wr (IntsAt.below HN.out hB) (RowsAt.kept HAR.out hB) (OwnI.ints ho) (by have := HNL.out; omega) (by have := HL2.out; omega) (by have := HNL.out; omega)
      have hnb : nextB N arcs T (N[i]'hlt) = (!inL T (N[i]'hlt) && freeG N arcs T (N[i]'hlt)) := rfl
      have hmem : N[i]'hlt ∈ N := List.getElem_mem hlt
      have hpn : nextB N arcs T (N[i]'hlt) = false → ∀ j (_ : j < i + 1) (h2 : j < N.length), nextB N arcs T N[j] = false := fun h j hj h2 => by
        by_cases e : j = i
        · subst e; exact h
        · exact hpre j (by omega) h2
      have hst := fun (hb : nextB N arcs T (N[i]'hlt) = true) f => ordG_step (arcs := arcs) (told := T) i hlt rfl (fun j hj => hpre j hj (by omega)) hb f
      generalize N[i]'hlt = x at *
      have HPN := Lib.hid hpn
      have HST := Lib.hid hst
      have HMEM := Lib.hid hmem
      clear hpn hst hmem hpre hor hti ho hB htl
      cases hin : inL T x with
      | true =>
        rw [hin] at GI hnb
        have GI2 := Lib.hid GI
        have HX := Lib.hid (HPN.out hnb)
        clear GI GF hnb hin HPN HST
        go_wp2_with (go_at_call 22; (with_reducible refine GI2.out.mono ?_); rintro e w2 ⟨rfl, rfl⟩)
        go_roundw
        case rel => exact ⟨i + 1, T, by have := HLT.out; omega, by go_num, HO.out, HB.out, HTI.out, HOR.out, HX.out⟩
        case measure => have := HLT.out; simp [intOf, slen]; omega
      | false =>
        rw [hin] at GI hnb
        cases hfr : freeG N arcs T x with
        | false =>
          rw [hfr] at GF hnb
          have GI2 := Lib.hid GI
          have GF2 := Lib.hid GF
          have HX := Lib.hid (HPN.out hnb)
          clear GI GF hnb hin hfr HPN HST
          go_wp2_with (first
            | (go_at_call 22; (with_reducible refine GI2.out.mono ?_); rintro e w2 ⟨rfl, rfl⟩)
            | (go_at_call 23; (with_reducible refine GF2.out.mono ?_); rintro e w2 ⟨rfl, rfl⟩))
          go_roundw
          case rel => exact ⟨i + 1, T, by have := HLT.out; omega, by go_num, HO.out, HB.out, HTI.out, HOR.out, HX.out⟩
          case measure => have := HLT.out; simp [intOf, slen]; omega
        | true =>
          rw [hfr] at GF hnb
          have GI2 := Lib.hid GI
          have GF2 := Lib.hid GF
          have hlt2 := HTI.out.lt HMEM.out hnb
          have HLT2 := Lib.hid hlt2
          have HX := Lib.hid (HST.out hnb (N.length - T.length - 1))
          have HTN := Lib.hid (HTI.out.next HMEM.out hnb)
          clear GI GF hnb hin hfr HPN HST hlt2
          go_wp2_with (first
            | (go_at_call 22; (with_reducible refine GI2.out.mono ?_); rintro e w2 ⟨rfl, rfl⟩)
            | (go_at_call 23; (with_reducible refine GF2.out.mono ?_); rintro e w2 ⟨rfl, rfl⟩)
            | (at_builtin; refine app1 HO.out HB.out.size (by have := HLT2.out; have := HNL.out; omega) rfl _ _ rfl rfl rfl ?_; intro v6 w6 o6 b6; have HO6 := Lib.hid o6; have HB6 := Lib.hid (HB.out.trans b6); obtain ⟨a6, c6, e6⟩ := RowsAt.form (OwnR.rows csI_len o6); rw [List.length_append, List.length_singleton] at e6; subst e6; clear o6 b6 p0))
          go_roundw
          case rel => exact ⟨0, T ++ [x], by omega, rfl, HO6.out, HB6.out, HTN.out, by rw [List.length_append, List.length_singleton, ← HOR.out]; have h := HX.out; rw [show N.length - T.length - 1 + 1 = N.length - T.length by have := HLT2.out; omega] at h; rw [h]; congr 1, fun j h => absurd h (by omega)⟩
          case measure =>
            have h1 := HLT2.out
            simp [intOf, slen]
            obtain ⟨q, hq⟩ : ∃ q, N.length - T.length = q + 1 := ⟨N.length - T.length - 1, by omega⟩
            have hq2 : N.length - (T.length + 1) = q := by omega
            rw [hq, hq2, Nat.add_mul]
            omega
    · have hke : i = N.length := by omega
      have hend : T = R := by
        rw [← hor]
        exact (ordG_end (fun n hn => by
          obtain ⟨j, hj, rfl⟩ := List.getElem_of_mem hn
          exact hpre j (by omega) hj) _).symm
      subst hend hke
      have hdd : (((T.length : Int) == (N.length : Int))) = decide (T.length = N.length) := by
        by_cases h : T.length = N.length
        · rw [h]; simp
        · rw [decide_eq_false h]; exact beq_noI (by omega)
      rw [HTD.out] at hdd
      clear hor hpre hti hlt ho hB
      go_wp2
      exact bodyPost_ret (v := .tuple #[.slice aT T.length cT, .bool t]) (by simp [results, Try.results9, go_sem]) rfl ⟨_, rfl, HO.out.base13 HB1.out.size, HB1.out.trans (HB.out.mono HB1.out.size)⟩

set_option maxHeartbeats 8000000 in
set_option maxRecDepth 100000 in
theorem refLeft_any (va vb : Value) (l : List Int) (arcs : List Arc16) (W : World) (ha : IntsAt W va l) (hb : ArcsAt W vb arcs) (hl : l.length ≤ 1000) (hl2 : arcs.length ≤ 1000) :
    Calls Try.prog 12 #[va, vb] W fun e w' => ∃ v, e = .returned v ∧ OwnI w' W.heap.size v (leftL l arcs) ∧ Below W.heap.size W w' := by
  have GS := Lib.hid (refSet_any va l W ha (by omega))
  have GO := Lib.hid fun w1 (h : Below W.heap.size W w1) => refOrder_any va vb l arcs w1 (IntsAt.below ha h) (RowsAt.kept hb h) hl hl2
  obtain ⟨a0, c0, rfl⟩ := IntsAt.form ha
  obtain ⟨b0, d0, rfl⟩ := RowsAt.form hb
  have hnl := setL_le l
  have hol : (ordL l arcs).length ≤ (setL l).length := (ordL_inv l arcs).1.ti.len
  have hlf : leftL l arcs = (setL l).filter fun n => !inL (ordL l arcs) n := rfl
  obtain ⟨R, hR⟩ : ∃ R, leftL l arcs = R := ⟨_, rfl⟩
  rw [hR] at hlf ⊢
  clear hR
  generalize decide ((ordL l arcs).length = (setL l).length) = t at *
  generalize ordL l arcs = O at *
  generalize setL l = N at *
  have HLF := Lib.hid hlf
  have HNL := Lib.hid (show N.length ≤ 1000 by omega)
  have HOL := Lib.hid (show O.length ≤ 1000 by omega)
  clear ha hb hlf hnl hol
  go_enter Try.func12, Try.ntmps12
  go_wp2_with (first
    | (go_at_call 17; (with_reducible refine GS.out.mono ?_); rintro e w1 ⟨vn, rfl, hn, hbn⟩; obtain ⟨an, cn, e⟩ := RowsAt.form (OwnR.rows csI_len hn); subst e; have HN := Lib.hid (OwnI.ints hn); have HB1 := Lib.hid hbn; clear hn hbn)
    | (go_at_call 9; (with_reducible refine (GO.out _ HB1.out).mono ?_); rintro e w2 ⟨vo, rfl, ho, hbo⟩; obtain ⟨ao, co, e⟩ := RowsAt.form (OwnR.rows csI_len ho); subst e; have HO := Lib.hid (OwnI.ints ho); have HN2 := Lib.hid (IntsAt.below HN.out hbo); have HB2 := Lib.hid (HB1.out.trans (hbo.mono HB1.out.size)); clear ho hbo HN HB1))
  go_loopw [8, 9] (fun tv iv wr => ∃ i : Nat, i ≤ N.length ∧ iv = .int .i64 i ∧ OwnI wr w2.heap.size tv ((N.take i).filter fun n => !inL O n) ∧ Below w2.heap.size w2 wr) (fun _ iv _ => N.length - (intOf iv).toNat)
  case atStart => exact ⟨0, by omega, rfl, OwnR.nil _ _ _ _ _, Below.refl _ _⟩
  case round =>
    obtain ⟨i, hi, rfl, ho, hB⟩ := hrel
    have HO3 := Lib.hid ho
    have HB3 := Lib.hid hB
    by_cases hlt : i < N.length
    · obtain ⟨g, o, cc, e, hlc, hg, p0⟩ := (IntsAt.below HN2.out hB).spot i hlt
      cases e
      have HLT := Lib.hid hlt
      have K0 : (0 : Int) ≤ (i : Int) := by omega
      have K1 : (i : Int) < (N.length : Int) := by omega
      have K2 : (i : Int) ≤ 1000 := by have := HNL.out; omega
      have GI := refIn_any (.slice ao O.length co) O (N[i]'hlt) wr (IntsAt.below HO.out hB) (by have := HOL.out; omega)
      have hnx : (N.take (i + 1)).filter (fun n => !inL O n) = (N.take i).filter (fun n => !inL O n) ++ (if inL O (N[i]'hlt) then [] else [N[i]'hlt]) := by
        rw [List.take_succ_eq_append_getElem hlt, List.filter_append]
        congr 1
        cases h : inL O (N[i]'hlt) <;> simp [h]
      have hfl : ((N.take i).filter fun n => !inL O n).length ≤ 1000 := Nat.le_trans (List.length_filter_le _ _) (by rw [List.length_take]; have := HNL.out; omega)
      generalize N[i]'hlt = x at *
      have HFL := Lib.hid hfl
      clear ho hB hfl
      cases hin : inL O x with
      | true =>
        rw [hin] at GI hnx
        rw [if_pos rfl, List.append_nil] at hnx
        have GI2 := Lib.hid GI
        have HNX := Lib.hid hnx
        clear GI hnx hin
        go_wp2_with (go_at_call 22; (with_reducible refine GI2.out.mono ?_); rintro e w3 ⟨rfl, rfl⟩)
        go_roundw
        case rel => exact ⟨i + 1, by have := HLT.out; omega, by go_num, by rw [HNX.out]; exact HO3.out, HB3.out⟩
        case measure => have := HLT.out; simp [intOf] <;> omega
      | false =>
        rw [hin] at GI hnx
        rw [if_neg (by simp)] at hnx
        have GI2 := Lib.hid GI
        have HNX := Lib.hid hnx
        clear GI hnx hin
        generalize (N.take i).filter (fun n => !inL O n) = T at *
        obtain ⟨aT, cT, e⟩ := RowsAt.form (OwnR.rows csI_len HO3.out)
        subst e
        go_wp2_with (first
          | (go_at_call 22; (with_reducible refine GI2.out.mono ?_); rintro e w3 ⟨rfl, rfl⟩)
          | (at_builtin; refine app1 HO3.out HB3.out.size (by have := HFL.out; omega) rfl _ _ rfl rfl rfl ?_; intro v6 w6 o6 b6; have HO6 := Lib.hid o6; have HB6 := Lib.hid (HB3.out.trans b6); clear o6 b6 p0))
        go_roundw
        case rel => exact ⟨i + 1, by have := HLT.out; omega, by go_num, by rw [HNX.out]; exact HO6.out, HB6.out⟩
        case measure => have := HLT.out; simp [intOf] <;> omega
    · have hke : i = N.length := by omega
      subst hke
      rw [List.take_length, ← HLF.out] at HO3
      clear ho hB hlt
      go_wp2
      go_ret
      exact ⟨_, rfl, HO3.out.base13 HB2.out.size, HB2.out.trans (HB3.out.mono HB2.out.size)⟩
end Go.Proofs.Ytnfdhlkngjplkaa
