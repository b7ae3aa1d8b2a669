/- Stage 25's document: Give, Free, First. -/
import Derived.Test.YtlgemfgikdaelaaRsRD
namespace Go.Proofs.Ytlgemfgikdaelaa
open Go.RowKit

set_option maxHeartbeats 8000000 in
set_option maxRecDepth 100000 in
theorem refGive25_any (hv bv : Value) (room : Int) (B : List Int) (n : Int) (w : World) (hhv : ∃ q i j, hv = .slice q i j) (hb : IntsAt w bv B) (hbl : B.length ≤ 1000) :
    Calls Try.prog 12 #[ruv room hv bv, .int .i64 n] w fun e w' => ∃ bv', e = .returned (.tuple #[ruv room hv bv', .bool (wasF B n)]) ∧
      IntsAt w' bv' (dropF B n) ∧ (∀ k, bv'.ownBlock = some k → w.heap.size ≤ k) ∧ Below w.heap.size w w' := by
  have hst := RuW.start w room hv bv
  obtain ⟨W2, hW2⟩ : ∃ W2, (w.alloc (.cells #[.int .i64 room, hv, bv] 31)).alloc (.cells #[.int .i64 0, .slice none 0 0, .slice none 0 0] 31) = W2 := ⟨_, rfl⟩
  rw [hW2] at hst
  have HW2 := Lib.hid hW2
  obtain ⟨q2, j2, rfl⟩ := hb.form
  obtain ⟨q1, i1, j1, rfl⟩ := hhv
  have HST := Lib.hid hst
  have HI2 := Lib.hid (hb.below hst.b)
  have HBL := Lib.hid hbl
  have hw : wasF B n = decide ((dropF B n).length < B.length) := rfl
  obtain ⟨t, ht⟩ : ∃ t, wasF B n = t := ⟨_, rfl⟩
  rw [ht] at hw ⊢
  have HW := Lib.hid hw
  have l2 : (B.length : Int) ≤ 1000 := by omega
  clear hst hW2 hb ht hw hbl
  go_enter Try.func12, Try.ntmps12
  go_upto_region 1 with fail
  rw [HW2.out]
  go_wp2
  go_loopg [6, 7] B.length (fun kx tv iv wr => ∃ k : Nat, k ≤ B.length ∧ B.length - k ≤ kx ∧ iv = .int .i64 k ∧ Hid (OwnI wr W2.heap.size tv (dropF (B.take k) n)) ∧ Hid (Below W2.heap.size W2 wr))
  case atStart => exact ⟨0, Nat.zero_le _, Nat.le_refl _, rfl, OwnR.nil _ _ _ _ _, Below.refl _ _⟩
  case round =>
    obtain ⟨k, hk, hkx, rfl, HO, HB⟩ := hrel
    have HRK := Lib.hid (HST.out.kept HB.out)
    have c0 := HRK.out.u.cell 0 rfl
    have c1 := HRK.out.u.cell 1 rfl
    have c2 := HRK.out.u.cell 2 rfl
    by_cases hlt : k < B.length
    · obtain ⟨g, o, cc, e, hlc, hg, p0⟩ := (HI2.out.below HB.out).spot k hlt
      simp only [Value.slice.injEq] at e
      obtain ⟨rfl, -, rfl⟩ := e
      have k0 : (0 : Int) ≤ (k : Int) := by omega
      have k1 : (k : Int) < (B.length : Int) := by omega
      have hnx : dropF (B.take (k + 1)) n = dropF (B.take k) n ++ (if B[k]'hlt = n then [] else [B[k]'hlt]) := by
        unfold dropF
        rw [List.take_succ_eq_append_getElem hlt, List.filter_append]
        congr 1
        by_cases h : B[k]'hlt = n <;> simp [h]
      have hfl : (dropF (B.take k) n).length ≤ 1000 := Nat.le_trans (dropF_len _ _) (by rw [List.length_take]; have := HBL.out; omega)
      generalize B[k]'hlt = y at *
      have HFL := Lib.hid hfl
      have HK := Lib.hid (And.intro hlt hkx)
      clear hfl hlt hkx hk
      by_cases hyn : y = n
      · rw [if_pos hyn, List.append_nil] at hnx
        subst hyn
        have HNX := Lib.hid hnx
        clear hnx
        go_wp2
        go_roundg (B.length - (k + 1))
        case measure => have := HK.out; omega
        case rel => exact ⟨k + 1, by have := HK.out; omega, Nat.le_refl _, by go_num, by rw [HNX.out]; exact HO.out, HB.out⟩
      · rw [if_neg hyn] at hnx
        have g1 : (y == n) = false := beq_noI hyn
        have HNX := Lib.hid hnx
        clear hnx hyn
        generalize dropF (B.take k) n = T at *
        obtain ⟨aT, cT, e⟩ := RowsAt.form (OwnR.rows csI_len HO.out)
        subst e
        go_wp2_with (at_builtin; refine app1 HO.out HB.out.size (by have := HFL.out; omega) rfl _ _ rfl rfl rfl ?_; intro v6 w6 o6 b6; have HO6 := Lib.hid o6; have HB6 := Lib.hid (HB.out.trans b6); clear o6 b6 p0)
        go_roundg (B.length - (k + 1))
        case measure => have := HK.out; omega
        case rel => exact ⟨k + 1, by have := HK.out; omega, Nat.le_refl _, by go_num, by rw [HNX.out]; exact HO6.out, HB6.out⟩
    · have hke : k = B.length := by omega
      subst hke
      have ho := HO.out
      rw [List.take_length] at ho
      have hdd : decide (((dropF B n).length : Int) < (B.length : Int)) = t := by
        rw [HW.out]
        by_cases h : (dropF B n).length < B.length
        · rw [decide_eq_true h]; exact decide_eq_true (by omega)
        · rw [decide_eq_false h]; exact decide_eq_false (by omega)
      have hd2 : decide ((dropF B n).length < B.length) = t := HW.out.symm
      have hlD : (dropF B n).length ≤ 1000 := Nat.le_trans (dropF_len _ _) HBL.out
      obtain ⟨aT, cT, e⟩ := RowsAt.form (OwnR.rows csI_len ho)
      subst e
      have g2 := HRK.out.u.free 2 rfl
      have z0 := HRK.out.z.cell 0 rfl
      have z1 := HRK.out.z.cell 1 rfl
      have z2 := HRK.out.z.cell 2 rfl
      have f0 := HRK.out.z.free 0 rfl
      have f1 := HRK.out.z.free 1 rfl
      have f2 := HRK.out.z.free 2 rfl
      generalize hD : dropF B n = D at *
      have HOD := Lib.hid ho
      have hp := HRK.out.put2 (.slice aT D.length cT)
      obtain ⟨W8, e8, y0, y1, y2, hb8, ho8⟩ := hp.give (.int .i64 room) (.slice q1 i1 j1) (.slice aT D.length cT)
      have hq := (((Only.refl (fun k => k = w.heap.size ∨ k = w.heap.size + 1) wr).set ⟨w.heap.size, 2, none⟩ (.slice aT D.length cT) (.inl rfl)).trans (ho8.mono fun k h => .inr h))
      have HFIN := Lib.hid (HST.out.rows csI_len HOD.out hq)
      have E8 := Lib.hid e8
      have Y := Lib.hid (And.intro y0 (And.intro y1 y2))
      have HB8 := Lib.hid hb8
      clear ho hlt hk hkx hlD hp e8 y0 y1 y2 hb8 ho8 hq
      go_wp2
      rw [E8.out]
      exact bodyPost_ret (v := .tuple #[.agg #[.int .i64 room, .slice q1 i1 j1, .slice aT D.length cT], .bool t]) (by simp [results, Try.results12, go_sem, Y.out.1, Y.out.2.1, Y.out.2.2]) rfl
        ⟨_, rfl, by rw [hD]; exact RowsAt.ints HFIN.out, fun k hk => Nat.le_trans HST.out.b.size (World.ownsRow.lt HOD.out k hk).1, HB8.out⟩

set_option maxHeartbeats 8000000 in
set_option maxRecDepth 100000 in
theorem refFree25_any (hv bv : Value) (room : Int) (L : List En) (B : List Int) (w : World) (ha : RowsAt w 3 csHd hv (viewE L)) (hb : IntsAt w bv B) (hok : RsOk L) (hl : L.length ≤ 16) (hbl : B.length ≤ 1000) (hbr : BusyR L B) :
    Calls Try.prog 15 #[ruv room hv bv] w fun e w' => ∃ v, e = .returned v ∧ OwnR w' w.heap.size 52 3 csHd v (freeE L) ∧ Below w.heap.size w w' := by
  obtain ⟨W1, hW1⟩ : ∃ W1, w.alloc (.cells #[.int .i64 room, hv, bv] 31) = W1 := ⟨_, rfl⟩
  have hX := Blk.new w [.int .i64 room, hv, bv] 31
  have hB0 := (Below.refl w.heap.size w).alloc (Nat.le_refl _) (.cells #[.int .i64 room, hv, bv] 31)
  change Blk (w.alloc (.cells #[.int .i64 room, hv, bv] 31)) _ _ at hX
  rw [hW1] at hX hB0
  have HW1 := Lib.hid hW1
  have HX := Lib.hid hX
  have HB0 := Lib.hid hB0
  obtain ⟨q2, j2, rfl⟩ := hb.form
  obtain ⟨q1, j1, rfl⟩ := RowsAt.form ha
  have HA := Lib.hid ha
  have HI := Lib.hid hb
  have HBL := Lib.hid hbl
  have HBZ := Lib.hid fun x (hx : x ∈ L) => (show inL B x.id = x.busy from by
    rw [hbr.inL]
    obtain ⟨h1, h2⟩ := hasE_mem hok hx
    exact busyE_at h1 h2)
  have hvl := viewE_len L
  have hge := viewE_get L
  have HVL := Lib.hid hvl
  have HGE := Lib.hid hge
  have HL := Lib.hid hl
  have l2 : ((viewE L).length : Int) ≤ 16 := by omega
  clear hX hB0 hW1 ha hb hok hbl hbr hvl hge hl
  go_enter Try.func15, Try.ntmps15
  go_upto_region 1 with fail
  rw [HW1.out]
  go_wp2
  go_loopg [3, 4] L.length (fun kx ov iv wr => ∃ k : Nat, k ≤ L.length ∧ L.length - k ≤ kx ∧ iv = .int .i64 k ∧ Hid (OwnR wr W1.heap.size 52 3 csHd ov (freeE (L.take k))) ∧ Hid (Below W1.heap.size W1 wr))
  case atStart => exact ⟨0, Nat.zero_le _, Nat.le_refl _, rfl, OwnR.nil _ _ _ _ _, Below.refl _ _⟩
  case round =>
    obtain ⟨k, hk, hkx, rfl, HO, HB⟩ := hrel
    have HXB := Lib.hid fun w' (hb : Below W1.heap.size W1 w') => HX.out.kept hb
    have HBB := Lib.hid fun w' (hb : Below W1.heap.size W1 w') => HB0.out.trans (hb.mono HB0.out.size)
    have s1 := (HXB.out _ HB.out).cell 1 rfl
    have s2 := (HXB.out _ HB.out).cell 2 rfl
    by_cases hlt : k < L.length
    · have hltv : k < (viewE L).length := by rw [HVL.out]; exact hlt
      obtain ⟨g, o, cc, e, -, hg, c0, c1, c2⟩ := hd_at HA.out k hltv
      rw [HGE.out] at c0 c1 c2
      simp only [Value.slice.injEq] at e
      obtain ⟨rfl, -, rfl⟩ := e
      have hft := freeE_take L k hlt
      have hfl := freeE_len (L.take k)
      rw [List.length_take] at hfl
      have hbz := HBZ.out _ (List.getElem_mem hlt)
      generalize L[k] = x at *
      obtain ⟨id, bi, on, bu⟩ := x
      dsimp only [En.hd] at c0 c1 c2 hft hbz
      have gi := fun w' (hb : Below W1.heap.size W1 w') => refIn_any _ B id w' (HI.out.below (HBB.out w' hb)) (by have := HBL.out; omega)
      rw [hbz] at gi
      have GI := Lib.hid gi
      have CF := Lib.hid fun w' (hb : Below W1.heap.size W1 w') => And.intro (((HBB.out w' hb).cell (p := ⟨g, o + k * 3, none⟩) hg).trans c0) (And.intro (((HBB.out w' hb).cell (p := ⟨g, o + k * 3 + 1, none⟩) hg).trans c1) (((HBB.out w' hb).cell (p := ⟨g, o + k * 3 + 2, none⟩) hg).trans c2))
      have HK := Lib.hid (And.intro hlt hkx)
      have HFL := Lib.hid (show (freeE (L.take k)).length ≤ 16 by have := HL.out; omega)
      have k0 : (0 : Int) ≤ (k : Int) := by omega
      have k1 : (k : Int) < ((viewE L).length : Int) := by omega
      have p0 := (CF.out _ HB.out).1
      have p2 := (CF.out _ HB.out).2.2
      clear c0 c1 c2 hg hfl gi hbz hlt hkx hk hltv
      cases on with
      | false =>
        have HN := Lib.hid (show freeE (L.take (k + 1)) = freeE (L.take k) by rw [hft, if_neg (by simp [En.free])])
        clear hft GI
        go_upto_region 5 with fail
        refine wp_region_calm0 (by kernel_rfl) (by kernel_rfl) fun M => ?_
        have m0 := fun n : In M.w => n.cell (M.cell p0)
        have m2 := fun n : In M.w => n.cell (M.cell p2)
        have m3 := fun n : In M.w => n.cell (M.cell s1)
        have m4 := fun n : In M.w => n.cell (M.cell s2)
        repeat (go_big_quiet_step (fail))
        refine wpQuiet_nil ?_
        intro w10 hb10
        have HB1 := Lib.hid (HB.out.trans (hb10.mono HB.out.size))
        have HO1 := Lib.hid (OwnR.kept HO.out hb10)
        clear m0 m2 m3 m4 M hb10 p0 p2 s1 s2
        go_wp2
        go_roundg (L.length - (k + 1))
        case measure => have := HK.out; omega
        case rel => exact ⟨k + 1, by have := HK.out; omega, Nat.le_refl _, by go_num, by rw [HN.out]; exact HO1.out, HB1.out⟩
      | true =>
        cases bu with
        | true =>
          have HN := Lib.hid (show freeE (L.take (k + 1)) = freeE (L.take k) by rw [hft, if_neg (by simp [En.free])])
          clear hft
          go_upto_region 5 with fail
          refine wp_region_calm0 (by kernel_rfl) (by kernel_rfl) fun M => ?_
          have m0 := fun n : In M.w => n.cell (M.cell p0)
          have m2 := fun n : In M.w => n.cell (M.cell p2)
          have m3 := fun n : In M.w => n.cell (M.cell s1)
          have m4 := fun n : In M.w => n.cell (M.cell s2)
          have mS := fun n : In M.w => GI.out n.w (HB.out.trans ((M.h.trans (n.h.mono M.h.size)).mono HB.out.size))
          repeat (go_big_quiet_step ((go_at_call 20; with_reducible exact In.call_same (mS _))))
          refine wpQuiet_nil ?_
          intro w10 hb10
          have HB1 := Lib.hid (HB.out.trans (hb10.mono HB.out.size))
          have HO1 := Lib.hid (OwnR.kept HO.out hb10)
          clear m0 m2 m3 m4 mS M hb10 p0 p2 s1 s2
          go_wp2
          go_roundg (L.length - (k + 1))
          case measure => have := HK.out; omega
          case rel => exact ⟨k + 1, by have := HK.out; omega, Nat.le_refl _, by go_num, by rw [HN.out]; exact HO1.out, HB1.out⟩
        | false =>
          have HN := Lib.hid (show freeE (L.take (k + 1)) = freeE (L.take k) ++ [⟨id, bi, true⟩] by rw [hft, if_pos (by simp [En.free])])
          clear hft
          go_upto_region 5 with fail
          refine wp_region_calm0 (by kernel_rfl) (by kernel_rfl) fun M => ?_
          have m0 := fun n : In M.w => n.cell (M.cell p0)
          have m2 := fun n : In M.w => n.cell (M.cell p2)
          have m3 := fun n : In M.w => n.cell (M.cell s1)
          have m4 := fun n : In M.w => n.cell (M.cell s2)
          have mS := fun n : In M.w => GI.out n.w (HB.out.trans ((M.h.trans (n.h.mono M.h.size)).mono HB.out.size))
          repeat (go_big_quiet_step ((go_at_call 20; with_reducible exact In.call_same (mS _))))
          refine wpQuiet_nil ?_
          intro w10 hb10
          have HB1 := Lib.hid (HB.out.trans (hb10.mono HB.out.size))
          have HO1 := Lib.hid (OwnR.kept HO.out hb10)
          clear m0 m2 m3 m4 mS M hb10 p0 p2 s1 s2
          have s1 := (HXB.out _ HB1.out).cell 1 rfl
          have q0 := (CF.out _ HB1.out).1
          have q1 := (CF.out _ HB1.out).2.1
          have q2 := (CF.out _ HB1.out).2.2
          go_wp2_with (at_builtin; refine appHd ⟨id, bi, true⟩ HO1.out HB1.out.size (by have := HFL.out; omega) rfl _ _ rfl rfl rfl ?_; intro v7 w7 h1 h2; have K1 := Lib.hid h1; have K2 := Lib.hid (HB1.out.trans h2); clear h1 h2)
          go_roundg (L.length - (k + 1))
          case measure => have := HK.out; omega
          case rel => exact ⟨k + 1, by have := HK.out; omega, Nat.le_refl _, by go_num, by rw [HN.out]; exact K1.out, K2.out⟩
    · have e : k = L.length := by omega
      subst e
      have e2 : (L.length : Int) = ((viewE L).length : Int) := by rw [HVL.out]
      have ho := HO.out
      rw [List.take_length] at ho
      have HE := Lib.hid ho
      clear hlt hk hkx ho
      go_wp2
      go_ret
      exact ⟨_, rfl, OwnR.base13 HE.out HB0.out.size, HBB.out _ HB.out⟩
end Go.Proofs.Ytlgemfgikdaelaa
