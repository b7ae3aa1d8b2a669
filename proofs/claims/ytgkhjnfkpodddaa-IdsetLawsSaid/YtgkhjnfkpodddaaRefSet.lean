/- The document's Set (tallymanref16): the numbers of a list, rising, each once. FOR ALL LATER STAGES. (Written by wip/tools/gen_refset.py.) -/
import Derived.Test.YtgkhjnfkpodddaaGraphRefA
import Derived.Test.YtgkhjnfkpodddaaApp1
namespace Go.Proofs.Ytgkhjnfkpodddaa
open Go.RowKit

set_option maxHeartbeats 8000000 in
set_option maxRecDepth 100000 in
theorem refSet_any (va : Value) (l : List Int) (W : World) (ha : IntsAt W va l) (hl : l.length ≤ 100000) :
    Calls Try.prog 9 #[va] W fun e w' => ∃ v, e = .returned v ∧ OwnI w' W.heap.size v (setL l) ∧ Below W.heap.size W w' := by
  have HA := Lib.hid ha
  obtain ⟨a, c, rfl⟩ := IntsAt.form ha
  have HLB := Lib.hid hl
  clear ha
  go_enter Try.func9, Try.ntmps9
  go_wp2
  go_loopw [3, 4, 5, 6, 7] (fun ov iv _ _ _ wr => ∃ i : Nat, i ≤ l.length ∧ iv = .int .i64 i ∧ OwnI wr W.heap.size ov (setL (l.take i)) ∧ Below W.heap.size W wr) (fun _ iv _ _ _ _ => l.length - (intOf iv).toNat)
  case atStart => exact ⟨0, by omega, rfl, OwnR.nil _ _ _ _ _, Below.refl _ _⟩
  case round =>
    obtain ⟨i, hi, rfl, ho, hB⟩ := hrel
    by_cases hlt : i < l.length
    · have hol := setL_len l i
      have hnx := setL_take l i hlt
      have ha2 := IntsAt.below HA.out hB
      obtain ⟨gx, ox, cx, e, hlc, hgx, px⟩ := ha2.spot i hlt
      cases e
      have I0 : (0 : Int) ≤ (i : Int) := by omega
      have I1 : (i : Int) < (l.length : Int) := by omega
      generalize setL (l.take i) = O at *
      generalize l[i] = x at *
      have PX := Lib.hid fun (w' : World) (h : Below wr.heap.size wr w') => (h.cell (p := ⟨gx, ox + i, none⟩) hgx).trans px
      have HNX := Lib.hid hnx
      have HB := Lib.hid hB
      have HOL := Lib.hid hol
      have hrow := OwnI.ints ho
      have HROW := Lib.hid hrow
      obtain ⟨ao, co, rfl⟩ := hrow.form
      have HIL := Lib.hid (show i < 100000 by have := HLB.out; omega)
      clear hnx hB hol ho ha2 px hrow
      go_wp2
      generalize wr = wr0 at *
      go_loopw [5, 6, 7] (fun nv dv kv wr => ∃ k : Nat, k ≤ O.length ∧ kv = .int .i64 k ∧ dv = .bool (insP x (O.take k)).2 ∧ OwnI wr wr0.heap.size nv (insP x (O.take k)).1 ∧ Below wr0.heap.size wr0 wr) (fun _ _ kv _ => O.length - (intOf kv).toNat)
      case atStart => exact ⟨0, by omega, rfl, rfl, OwnR.nil _ _ _ _ _, Below.refl _ _⟩
      case round =>
        obtain ⟨k, hk, rfl, rfl, hn, hb2⟩ := hrel
        have HN2 := Lib.hid hn
        have HB2 := Lib.hid hb2
        by_cases hk2 : k < O.length
        · obtain ⟨gy, oy, cy, e, _, hgy, py0⟩ := HROW.out.spot k hk2
          cases e
          have PY := Lib.hid fun (w' : World) (h : Below wr0.heap.size wr0 w') => (h.cell (p := ⟨gy, oy + k, none⟩) hgy).trans py0
          have K0 : (0 : Int) ≤ (k : Int) := by omega
          have K1 : (k : Int) < (O.length : Int) := by omega
          have K2 : (k : Int) ≤ 100000 := by have := HOL.out; have := HIL.out; omega
          have HK2 := Lib.hid hk2
          have px := PX.out wr hb2
          have py := PY.out wr hb2
          have hll := insP_len x O k
          obtain ⟨⟨L, d⟩, hpr⟩ : ∃ r, insP x (O.take k) = r := ⟨_, rfl⟩
          rw [hpr] at hll HN2
          rw [hpr]
          simp only at hll HN2 ⊢
          obtain ⟨y, hy⟩ : ∃ y, O[k]'hk2 = y := ⟨_, rfl⟩
          rw [hy] at py PY
          obtain ⟨an, cn, e⟩ := RowsAt.form (OwnR.rows csI_len HN2.out)
          subst e
          have HLL := Lib.hid (show L.length ≤ 200000 by have := HOL.out; have := HIL.out; split at hll <;> omega)
          clear hn hb2 hll py0
          cases d
          · by_cases hle : x ≤ y
            · by_cases hne : y = x
              · have G1 : decide (x ≤ y) = true := by simp; omega
                have G2 : (y != x) = false := by simp [hne]
                have HST := Lib.hid (show insP x (O.take (k + 1)) = (L ++ [x], true) from by rw [insP_take x O k hk2, hpr, hy]; simp [stepS, hne])
                clear hpr hy hne hle
                go_wp2
                refine wp_region_calm0 (by kernel_rfl) (by kernel_rfl) fun M => ?_
                have e0 := fun n : In M.w => n.cell (M.cell px)
                have e1 := fun n : In M.w => n.cell (M.cell py)
                repeat (go_big_quiet_step (fail))
                refine wpQuiet_nil ?_
                clear e0 e1 M px py
                intro w3 hb3
                have HB3 := Lib.hid (HB2.out.trans (hb3.mono HB2.out.size))
                have HO3 := Lib.hid (OwnR.kept HN2.out hb3)
                have px := PX.out w3 HB3.out
                have py := PY.out w3 HB3.out
                clear hb3 HB2 HN2
                go_wp2_with (at_builtin; refine app1 HO3.out HB3.out.size (by have := HLL.out; omega) rfl _ _ rfl rfl rfl ?_; intro v4 w4 o4 b4; have HO4 := Lib.hid o4; have HB4 := Lib.hid (HB3.out.trans b4); have qx := PX.out w4 HB4.out; have qy := PY.out w4 HB4.out; obtain ⟨a4, c4, e4⟩ := RowsAt.form (OwnR.rows csI_len o4); rw [List.length_append, List.length_singleton] at e4; subst e4; clear o4 b4 px py)
                refine wp_region_calm0 (by kernel_rfl) (by kernel_rfl) fun M => ?_
                have e0 := fun n : In M.w => n.cell (M.cell qx)
                have e1 := fun n : In M.w => n.cell (M.cell qy)
                repeat (go_big_quiet_step (fail))
                refine wpQuiet_nil ?_
                clear e0 e1 M qx qy
                intro w5 hb5
                have HB5 := Lib.hid (HB4.out.trans (hb5.mono HB4.out.size))
                have HO5 := Lib.hid (OwnR.kept HO4.out hb5)
                have py := PY.out w5 HB5.out
                clear hb5
                go_wp2
                go_roundw
                case rel => exact ⟨k + 1, by have := HK2.out; omega, by go_num, by rw [HST.out], by rw [HST.out]; exact HO5.out, HB5.out⟩
                case measure => have := HK2.out; simp [intOf] <;> omega
              ·
                have G1 : decide (x ≤ y) = true := by simp; omega
                have G2 : (y != x) = true := by simp [hne]
                have HST := Lib.hid (show insP x (O.take (k + 1)) = (L ++ [x] ++ [y], true) from by rw [insP_take x O k hk2, hpr, hy]; simp [stepS, hle, hne])
                clear hpr hy hne hle
                go_wp2
                refine wp_region_calm0 (by kernel_rfl) (by kernel_rfl) fun M => ?_
                have e0 := fun n : In M.w => n.cell (M.cell px)
                have e1 := fun n : In M.w => n.cell (M.cell py)
                repeat (go_big_quiet_step (fail))
                refine wpQuiet_nil ?_
                clear e0 e1 M px py
                intro w3 hb3
                have HB3 := Lib.hid (HB2.out.trans (hb3.mono HB2.out.size))
                have HO3 := Lib.hid (OwnR.kept HN2.out hb3)
                have px := PX.out w3 HB3.out
                have py := PY.out w3 HB3.out
                clear hb3 HB2 HN2
                go_wp2_with (at_builtin; refine app1 HO3.out HB3.out.size (by have := HLL.out; omega) rfl _ _ rfl rfl rfl ?_; intro v4 w4 o4 b4; have HO4 := Lib.hid o4; have HB4 := Lib.hid (HB3.out.trans b4); have qx := PX.out w4 HB4.out; have qy := PY.out w4 HB4.out; obtain ⟨a4, c4, e4⟩ := RowsAt.form (OwnR.rows csI_len o4); rw [List.length_append, List.length_singleton] at e4; subst e4; clear o4 b4 px py)
                refine wp_region_calm0 (by kernel_rfl) (by kernel_rfl) fun M => ?_
                have e0 := fun n : In M.w => n.cell (M.cell qx)
                have e1 := fun n : In M.w => n.cell (M.cell qy)
                repeat (go_big_quiet_step (fail))
                refine wpQuiet_nil ?_
                clear e0 e1 M qx qy
                intro w5 hb5
                have HB5 := Lib.hid (HB4.out.trans (hb5.mono HB4.out.size))
                have HO5 := Lib.hid (OwnR.kept HO4.out hb5)
                have py := PY.out w5 HB5.out
                clear hb5
                go_wp2_with (at_builtin; refine app1 HO5.out HB5.out.size (by have := HLL.out; simp; omega) rfl _ _ rfl rfl rfl ?_; intro v6 w6 o6 b6; have HO6 := Lib.hid o6; have HB6 := Lib.hid (HB5.out.trans b6); clear o6 b6)
                go_roundw
                case rel => exact ⟨k + 1, by have := HK2.out; omega, by go_num, by rw [HST.out], by rw [HST.out]; exact HO6.out, HB6.out⟩
                case measure => have := HK2.out; simp [intOf] <;> omega
            · by_cases hne : y = x
              · exact absurd (by omega) hle
              · have G1 : decide (x ≤ y) = false := by simp; omega
                have G2 : (y != x) = true := by simp [hne]
                have HST := Lib.hid (show insP x (O.take (k + 1)) = (L ++ [y], false) from by rw [insP_take x O k hk2, hpr, hy]; simp [stepS, hle, hne])
                clear hpr hy hne hle
                go_wp2
                refine wp_region_calm0 (by kernel_rfl) (by kernel_rfl) fun M => ?_
                have e0 := fun n : In M.w => n.cell (M.cell px)
                have e1 := fun n : In M.w => n.cell (M.cell py)
                repeat (go_big_quiet_step (fail))
                refine wpQuiet_nil ?_
                clear e0 e1 M px py
                intro w3 hb3
                have HB3 := Lib.hid (HB2.out.trans (hb3.mono HB2.out.size))
                have HO3 := Lib.hid (OwnR.kept HN2.out hb3)
                have px := PX.out w3 HB3.out
                have py := PY.out w3 HB3.out
                clear hb3 HB2 HN2
                go_wp2
                refine wp_region_calm0 (by kernel_rfl) (by kernel_rfl) fun M => ?_
                have e0 := fun n : In M.w => n.cell (M.cell px)
                have e1 := fun n : In M.w => n.cell (M.cell py)
                repeat (go_big_quiet_step (fail))
                refine wpQuiet_nil ?_
                clear e0 e1 M px py
                intro w5 hb5
                have HB5 := Lib.hid (HB3.out.trans (hb5.mono HB3.out.size))
                have HO5 := Lib.hid (OwnR.kept HO3.out hb5)
                have py := PY.out w5 HB5.out
                clear hb5
                go_wp2_with (at_builtin; refine app1 HO5.out HB5.out.size (by have := HLL.out; simp; omega) rfl _ _ rfl rfl rfl ?_; intro v6 w6 o6 b6; have HO6 := Lib.hid o6; have HB6 := Lib.hid (HB5.out.trans b6); clear o6 b6)
                go_roundw
                case rel => exact ⟨k + 1, by have := HK2.out; omega, by go_num, by rw [HST.out], by rw [HST.out]; exact HO6.out, HB6.out⟩
                case measure => have := HK2.out; simp [intOf] <;> omega
          · have hle : True := trivial
            by_cases hne : y = x
            · have G2 : (y != x) = false := by simp [hne]
              have HST := Lib.hid (show insP x (O.take (k + 1)) = (L, true) from by rw [insP_take x O k hk2, hpr, hy]; simp [stepS, hne])
              clear hpr hy hne hle
              go_wp2
              refine wp_region_calm0 (by kernel_rfl) (by kernel_rfl) fun M => ?_
              have e0 := fun n : In M.w => n.cell (M.cell px)
              have e1 := fun n : In M.w => n.cell (M.cell py)
              repeat (go_big_quiet_step (fail))
              refine wpQuiet_nil ?_
              clear e0 e1 M px py
              intro w3 hb3
              have HB3 := Lib.hid (HB2.out.trans (hb3.mono HB2.out.size))
              have HO3 := Lib.hid (OwnR.kept HN2.out hb3)
              have px := PX.out w3 HB3.out
              have py := PY.out w3 HB3.out
              clear hb3 HB2 HN2
              go_wp2
              refine wp_region_calm0 (by kernel_rfl) (by kernel_rfl) fun M => ?_
              have e0 := fun n : In M.w => n.cell (M.cell px)
              have e1 := fun n : In M.w => n.cell (M.cell py)
              repeat (go_big_quiet_step (fail))
              refine wpQuiet_nil ?_
              clear e0 e1 M px py
              intro w5 hb5
              have HB5 := Lib.hid (HB3.out.trans (hb5.mono HB3.out.size))
              have HO5 := Lib.hid (OwnR.kept HO3.out hb5)
              have py := PY.out w5 HB5.out
              clear hb5
              go_wp2
              go_roundw
              case rel => exact ⟨k + 1, by have := HK2.out; omega, by go_num, by rw [HST.out], by rw [HST.out]; exact HO5.out, HB5.out⟩
              case measure => have := HK2.out; simp [intOf] <;> omega
            ·
              have G2 : (y != x) = true := by simp [hne]
              have HST := Lib.hid (show insP x (O.take (k + 1)) = (L ++ [y], true) from by rw [insP_take x O k hk2, hpr, hy]; simp [stepS, hne])
              clear hpr hy hne hle
              go_wp2
              refine wp_region_calm0 (by kernel_rfl) (by kernel_rfl) fun M => ?_
              have e0 := fun n : In M.w => n.cell (M.cell px)
              have e1 := fun n : In M.w => n.cell (M.cell py)
              repeat (go_big_quiet_step (fail))
              refine wpQuiet_nil ?_
              clear e0 e1 M px py
              intro w3 hb3
              have HB3 := Lib.hid (HB2.out.trans (hb3.mono HB2.out.size))
              have HO3 := Lib.hid (OwnR.kept HN2.out hb3)
              have px := PX.out w3 HB3.out
              have py := PY.out w3 HB3.out
              clear hb3 HB2 HN2
              go_wp2
              refine wp_region_calm0 (by kernel_rfl) (by kernel_rfl) fun M => ?_
              have e0 := fun n : In M.w => n.cell (M.cell px)
              have e1 := fun n : In M.w => n.cell (M.cell py)
              repeat (go_big_quiet_step (fail))
              refine wpQuiet_nil ?_
              clear e0 e1 M px py
              intro w5 hb5
              have HB5 := Lib.hid (HB3.out.trans (hb5.mono HB3.out.size))
              have HO5 := Lib.hid (OwnR.kept HO3.out hb5)
              have py := PY.out w5 HB5.out
              clear hb5
              go_wp2_with (at_builtin; refine app1 HO5.out HB5.out.size (by have := HLL.out; simp; omega) rfl _ _ rfl rfl rfl ?_; intro v6 w6 o6 b6; have HO6 := Lib.hid o6; have HB6 := Lib.hid (HB5.out.trans b6); clear o6 b6)
              go_roundw
              case rel => exact ⟨k + 1, by have := HK2.out; omega, by go_num, by rw [HST.out], by rw [HST.out]; exact HO6.out, HB6.out⟩
              case measure => have := HK2.out; simp [intOf] <;> omega
        · have hke : k = O.length := by omega
          subst hke
          rw [List.take_length] at HN2 ⊢
          have hins : insS x O = if (insP x O).2 then (insP x O).1 else (insP x O).1 ++ [x] := rfl
          have hll := insP_len x O O.length
          rw [List.take_length] at hll
          obtain ⟨⟨L, d⟩, hpr⟩ : ∃ r, insP x O = r := ⟨_, rfl⟩
          rw [hpr] at hins HN2 hll
          rw [hpr]
          simp only at hins HN2 hll ⊢
          obtain ⟨an, cn, e⟩ := RowsAt.form (OwnR.rows csI_len HN2.out)
          subst e
          have HLL := Lib.hid (show L.length ≤ 200000 by have := HOL.out; have := HIL.out; split at hll <;> omega)
          have px := PX.out wr hb2
          clear hn hb2 hll hpr
          cases d
          · have HINS := Lib.hid (show setL (l.take (i + 1)) = L ++ [x] by rw [HNX.out, hins]; rfl)
            clear hins
            go_wp2_with (at_builtin; refine app1 HN2.out HB2.out.size (by have := HLL.out; omega) rfl _ _ rfl rfl rfl ?_; intro v6 w6 o6 b6; have HO6 := Lib.hid o6; have HB6 := Lib.hid (HB2.out.trans b6); clear o6 b6 px)
            go_roundw
            case rel => exact ⟨i + 1, by omega, by go_num, by rw [HINS.out]; exact HO6.out.base13 HB.out.size, HB.out.trans (HB6.out.mono HB.out.size)⟩
            case measure => simp [intOf] <;> omega
          · have HINS := Lib.hid (show setL (l.take (i + 1)) = L by rw [HNX.out, hins]; rfl)
            clear hins
            go_wp2
            go_roundw
            case rel => exact ⟨i + 1, by omega, by go_num, by rw [HINS.out]; exact HN2.out.base13 HB.out.size, HB.out.trans (HB2.out.mono HB.out.size)⟩
            case measure => simp [intOf] <;> omega
    · have hke : i = l.length := by omega
      subst hke
      rw [List.take_length] at ho
      have HO := Lib.hid ho
      clear ho
      go_wp2
      go_ret
      exact ⟨_, rfl, HO.out, hB⟩
end Go.Proofs.Ytgkhjnfkpodddaa
