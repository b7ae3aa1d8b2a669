/- Stage 16: the document's Levels. -/
import Derived.Test.YtnfdhlkngjplkaaGraphRefB
import Derived.Test.YtnfdhlkngjplkaaIntsPut
import Derived.Lib.MinMax
import Derived.Deep.DeepCutAuto
namespace Go.Proofs.Ytnfdhlkngjplkaa
open Go.RowKit

set_option maxHeartbeats 16000000 in
set_option maxRecDepth 100000 in
theorem refLevels_any (va vb : Value) (l : List Int) (arcs : List Arc16) (W : World) (ha : IntsAt W va l) (hb : ArcsAt W vb arcs) (hl : l.length ≤ 1000) (hl2 : arcs.length ≤ 1000) :
    Calls Try.prog 16 #[va, vb] W fun e w' => ∃ v, e = .returned v ∧ OwnI w' W.heap.size v (levL l arcs) ∧ Below W.heap.size W w' := by
  have GS := Lib.hid (refSet_any va l W ha (by omega))
  have GO := Lib.hid fun w1 (h : Below W.heap.size W w1) => refOrder_any va vb l arcs w1 (IntsAt.below ha h) (RowsAt.kept hb h) hl hl2
  have HA0 := Lib.hid hb
  obtain ⟨a0, c0, rfl⟩ := IntsAt.form ha
  obtain ⟨b0, d0, rfl⟩ := RowsAt.form hb
  have hnl := setL_le l
  have hol : (ordL l arcs).length ≤ (setL l).length := (ordL_inv l arcs).1.ti.len
  have hlv : levL l arcs = (setL l).map (levOf (levP arcs (ordL l arcs))) := rfl
  have hpl := levP_len arcs (ordL l arcs)
  have hple := levP_le arcs (ordL l arcs)
  have hpat : ∀ k (hk : k < (ordL l arcs).length) (hp : k < (levP arcs (ordL l arcs)).length), (levP arcs (ordL l arcs))[k]'hp = ((ordL l arcs)[k]'hk, lvP arcs ((ordL l arcs)[k]'hk) ((levP arcs (ordL l arcs)).take k)) := fun k hk _ => levP_at arcs (ordL l arcs) k hk
  obtain ⟨R, hR⟩ : ∃ R, levL l arcs = R := ⟨_, rfl⟩
  rw [hR] at hlv ⊢
  clear hR
  generalize levP arcs (ordL l arcs) = P at *
  generalize decide ((ordL l arcs).length = (setL l).length) = t at *
  generalize ordL l arcs = T at *
  generalize setL l = N at *
  have HLV := Lib.hid hlv
  have HPL := Lib.hid hpl
  have HPLE := Lib.hid hple
  have HPAT := Lib.hid hpat
  have HNL := Lib.hid (show N.length ≤ 1000 by omega)
  have HTL := Lib.hid (show T.length ≤ 1000 by omega)
  have HAL := Lib.hid hl2
  clear ha hb hlv hpl hple hpat hnl hol
  go_enter Try.func16, Try.ntmps16
  go_upto_region 3 with (first
    | (go_at_call 17; (with_reducible refine GS.out.mono ?_); rintro e w1 ⟨vn, rfl, hn, hbn⟩; obtain ⟨an, cn, e⟩ := RowsAt.form (OwnR.rows csI_len hn); subst e; have HN := Lib.hid (OwnI.ints hn); have HB1 := Lib.hid hbn; clear hn hbn)
    | (go_at_call 9; (with_reducible refine (GO.out _ HB1.out).mono ?_); rintro e w2 ⟨vo, rfl, ho, hbo⟩; obtain ⟨ao, co, e⟩ := RowsAt.form (OwnR.rows csI_len ho); subst e; have HT := Lib.hid (OwnI.ints ho); have HN2 := Lib.hid (IntsAt.below HN.out hbo); have HB2 := Lib.hid (HB1.out.trans (hbo.mono HB1.out.size)); clear ho hbo HN HB1))
  have HA := Lib.hid (RowsAt.kept HA0.out HB2.out)
  clear HA0 GS GO
  obtain ⟨w3, hmk, ho3, hb3⟩ := makeI w2 T.length (by have := HTL.out; omega)
  have HO3 := Lib.hid ho3
  have HB3 := Lib.hid hb3
  have hT3 : (T.length : Int) ≤ 1000 := by have := HTL.out; omega
  clear ho3 hb3
  go_wp2
  clear hmk
  go_loopw [9, 10, 11] (fun iv _ _ wr => ∃ i : Nat, i ≤ T.length ∧ iv = .int .i64 i ∧ OwnI wr w2.heap.size (.slice (some ⟨w2.heap.size, 0, none⟩) T.length T.length) (lvHead P T.length i) ∧ Below w2.heap.size w2 wr) (fun iv _ _ _ => T.length - (intOf iv).toNat)
  case atStart => exact ⟨0, by omega, rfl, by unfold lvHead; rw [List.take_zero, List.map_nil, List.nil_append, Nat.sub_zero]; exact HO3.out, HB3.out⟩
  case round =>
    obtain ⟨i, hi, rfl, ho, hB⟩ := hrel
    have HOi := Lib.hid ho
    have HBi := Lib.hid hB
    by_cases hlt : i < T.length
    · have HLT := Lib.hid hlt
      have K0 : (0 : Int) ≤ (i : Int) := by omega
      have K1 : (i : Int) < (T.length : Int) := by omega
      have K2 : (i : Int) ≤ 1000 := by have := HTL.out; omega
      rw [lvHead_row hlt] at HOi
      obtain ⟨gt, ot, ct, e, hlc, hgt, pt0⟩ := (HT.out).spot i hlt
      cases e
      have hpati := HPAT.out i hlt (by have := HPL.out; omega)
      obtain ⟨y, hy⟩ : ∃ y, T[i]'hlt = y := ⟨_, rfl⟩
      rw [hy] at pt0 hpati
      have PTI := Lib.hid fun (w' : World) (h : Below w2.heap.size w2 w') => (h.cell (p := ⟨gt, ot + i, none⟩) hgt).trans pt0
      have HPI := Lib.hid hpati
      clear ho hB pt0 hpati hy
      go_wp2
      generalize wr = wr0 at *
      go_loopw [10, 11] (fun kv _ wr => ∃ k : Nat, k ≤ i ∧ kv = .int .i64 k ∧ OwnI wr w2.heap.size (.slice (some ⟨w2.heap.size, 0, none⟩) T.length T.length) (lvRow P T.length i (lvP arcs y (P.take k))) ∧ Below w2.heap.size w2 wr) (fun kv _ _ => i - (intOf kv).toNat)
      case atStart => exact ⟨0, by omega, rfl, HOi.out, HBi.out⟩
      case round =>
        obtain ⟨k, hk, rfl, ho, hB⟩ := hrel
        have HOk := Lib.hid ho
        have HBk := Lib.hid hB
        by_cases hki : k < i
        · have HKI := Lib.hid hki
          have J0 : (0 : Int) ≤ (k : Int) := by omega
          have J1 : (k : Int) < (i : Int) := by omega
          have J2 : (k : Int) < (T.length : Int) := by omega
          have J3 : (k : Int) ≤ 1000 := by omega
          obtain ⟨_, _, _, e, _, hgk, pk0⟩ := (HT.out).spot k (by omega)
          cases e
          have hkp : k < P.length := by have := HPL.out; omega
          have hpatk := HPAT.out k (by have := HLT.out; omega) hkp
          have hlek := HPLE.out k hkp
          have hnxk := lvP_take arcs y P k hkp
          have hm0 := lvP_le arcs y P HPLE.out k (by omega)
          have hold := fun m => lvRow_old (P := P) (n := T.length) (i := i) HPL.out HLT.out m k HKI.out
          have HNN := Lib.hid (lvP_nonneg arcs y (P.take k))
          obtain ⟨⟨x, q⟩, hq⟩ : ∃ p, P[k]'hkp = p := ⟨_, rfl⟩
          rw [hq] at hpatk hlek hnxk hold
          have hx : T[k]'(by have := HLT.out; omega) = x := (congrArg Prod.fst hpatk).symm
          rw [hx] at pk0
          simp only at hlek hold
          have hqn : 0 ≤ q := by have h := congrArg Prod.snd hpatk; simp only at h; rw [h]; exact lvP_nonneg _ _ _
          have HQN := Lib.hid hqn
          have PTK := Lib.hid fun (w' : World) (h : Below w2.heap.size w2 w') => (h.cell (p := ⟨gt, ot + k, none⟩) hgk).trans pk0
          generalize lvP arcs y (P.take k) = m0 at *
          have HNXK := Lib.hid hnxk
          have HM0 := Lib.hid hm0
          have HLEK := Lib.hid hlek
          have HOLD := Lib.hid hold
          clear ho hB pk0 hpatk hnxk hx hq hold hm0 hlek hqn
          go_wp2
          generalize wr = wr1 at *
          go_loopw [11] (fun av wr => ∃ a : Nat, a ≤ arcs.length ∧ av = .int .i64 a ∧ OwnI wr w2.heap.size (.slice (some ⟨w2.heap.size, 0, none⟩) T.length T.length) (lvRow P T.length i (lvA (arcs.take a) y (x, q) m0)) ∧ Below w2.heap.size w2 wr) (fun av _ => arcs.length - (intOf av).toNat)
          case atStart => exact ⟨0, by omega, rfl, HOk.out, HBk.out⟩
          case round =>
            obtain ⟨a, ha, rfl, ho, hB⟩ := hrel
            have HOa := Lib.hid ho
            have HBa := Lib.hid hB
            by_cases hlta : a < arcs.length
            · have HLTA := Lib.hid hlta
              have L0 : (0 : Int) ≤ (a : Int) := by omega
              have L1 : (a : Int) < (arcs.length : Int) := by omega
              have L2 : (a : Int) ≤ 1000 := by have := HAL.out; omega
              obtain ⟨gb, ob, cb, e, _, hgb, s0, s1⟩ := ArcsAt.at (RowsAt.kept HA.out hB) a hlta
              cases e
              have hnxa := lvA_take arcs y (x, q) m0 a hlta
              have hma := lvA_le y (x, q) ((k : Int) + 1) (by have := HLEK.out; simp only; omega) (arcs.take a) m0 (by have := HM0.out; omega)
              obtain ⟨m, hm⟩ : ∃ m, lvA (arcs.take a) y (x, q) m0 = m := ⟨_, rfl⟩
              rw [hm] at hnxa hma HOa
              obtain ⟨⟨xs, xd⟩, har⟩ : ∃ r, arcs[a]'hlta = r := ⟨_, rfl⟩
              rw [har] at s0 s1 hnxa
              simp only at s0 s1 hnxa
              have pti := PTI.out wr hB
              have ptk := PTK.out wr hB
              clear ho hB hm har
              by_cases h1 : xs = x
              · by_cases h2 : xd = y
                · rw [if_pos ⟨h1, h2⟩] at hnxa
                  subst h1 h2
                  have HNXA := Lib.hid hnxa
                  obtain ⟨mx, hmx⟩ : ∃ mx, max m (q + 1) = mx := ⟨_, rfl⟩
                  rw [hmx] at HNXA
                  have hq1 : q + 1 ≤ 2000 := by have := HLEK.out; omega
                  have hq2 : 0 ≤ q := HQN.out
                  clear hnxa
                  go_wp2
                  refine wp_region_calm0 (by kernel_rfl) (by kernel_rfl) fun M => ?_
                  have e0 := fun n : In M.w => n.cell (M.cell s0)
                  have e1 := fun n : In M.w => n.cell (M.cell s1)
                  have e2 := fun n : In M.w => n.cell (M.cell pti)
                  have e3 := fun n : In M.w => n.cell (M.cell ptk)
                  repeat (go_big_quiet_step (fail))
                  refine wpQuiet_nil ?_
                  clear e0 e1 e2 e3 M s0 s1 pti ptk
                  intro w4 hb4
                  have HO4 := Lib.hid (OwnR.kept HOa.out hb4)
                  have HB4 := Lib.hid (HBa.out.trans (hb4.mono HBa.out.size))
                  clear hb4
                  obtain ⟨g1, c1, e, _, _, _, u0, f0⟩ := OwnI.place HO4.out i (by rw [lvRow_len HPL.out HLT.out]; exact HLT.out)
                  rw [lvRow_len HPL.out HLT.out] at e
                  cases e
                  obtain ⟨_, _, e, _, _, _, u1, _⟩ := OwnI.place HO4.out k (by rw [lvRow_len HPL.out HLT.out]; have := HLT.out; have := HKI.out; omega)
                  rw [lvRow_len HPL.out HLT.out] at e
                  cases e
                  rw [lvRow_at HPL.out HLT.out] at u0
                  rw [HOLD.out] at u1
                  have HPUT := Lib.hid (fun (w' : World) (h : Below w4.heap.size w4 w') => OwnI.put (OwnR.kept HO4.out h) i mx)
                  go_wp2
                  refine wp_region_calmT 13 (by kernel_rfl) (by simp) (by kernel_rfl) fun M => ?_
                  simp only [List.take_succ_cons, List.take_zero, List.drop_succ_cons, List.drop_zero]
                  have e0 := fun n : In M.w => n.cell (M.cell u0)
                  have e1 := fun n : In M.w => n.cell (M.cell u1)
                  repeat (go_big_quiet_step (fail))
                  refine wpQuiet_nil ?_
                  clear e0 e1 M
                  intro w5 hb5
                  have HO5 := Lib.hid (HPUT.out w5 hb5)
                  have HB5 := Lib.hid ((HB4.out.trans (hb5.mono HB4.out.size)).setCell (p := ⟨w2.heap.size, i, none⟩) (Nat.le_refl _) (.int .i64 mx))
                  have v0 := (World.cell?_of_block (a := ⟨w2.heap.size, i, none⟩) (hb5.block w2.heap.size (World.block_lt_of_cell? _ _ u0))).trans u0
                  have z0 := (World.frozen?_of_block (a := ⟨w2.heap.size, i, none⟩) (hb5.block w2.heap.size (World.block_lt_of_cell? _ _ u0))).trans f0
                  rw [lvRow_set HPL.out HLT.out] at HO5
                  clear hb5 u0 u1 f0 HPUT
                  go_wp2
                  go_roundw
                  case rel => exact ⟨a + 1, by have := HLTA.out; omega, by go_num, by rw [HNXA.out]; exact HO5.out, HB5.out⟩
                  case measure => have := HLTA.out; simp [intOf] <;> omega
                · rw [if_neg (fun h => h2 h.2)] at hnxa
                  subst h1
                  have g2 : (xd == y) = false := beq_noI h2
                  have HNXA := Lib.hid hnxa
                  clear hnxa h2
                  go_wp2
                  refine wp_region_calm0 (by kernel_rfl) (by kernel_rfl) fun M => ?_
                  have e0 := fun n : In M.w => n.cell (M.cell s0)
                  have e1 := fun n : In M.w => n.cell (M.cell s1)
                  have e2 := fun n : In M.w => n.cell (M.cell pti)
                  have e3 := fun n : In M.w => n.cell (M.cell ptk)
                  repeat (go_big_quiet_step (fail))
                  refine wpQuiet_nil ?_
                  clear e0 e1 e2 e3 M s0 s1 pti ptk
                  intro w4 hb4
                  have HO4 := Lib.hid (OwnR.kept HOa.out hb4)
                  have HB4 := Lib.hid (HBa.out.trans (hb4.mono HBa.out.size))
                  clear hb4
                  go_wp2
                  go_roundw
                  case rel => exact ⟨a + 1, by have := HLTA.out; omega, by go_num, by rw [HNXA.out]; exact HO4.out, HB4.out⟩
                  case measure => have := HLTA.out; simp [intOf] <;> omega
              · rw [if_neg (fun h => h1 h.1)] at hnxa
                have g1 : (xs == x) = false := beq_noI h1
                have HNXA := Lib.hid hnxa
                clear hnxa h1
                go_wp2
                refine wp_region_calm0 (by kernel_rfl) (by kernel_rfl) fun M => ?_
                have e0 := fun n : In M.w => n.cell (M.cell s0)
                have e3 := fun n : In M.w => n.cell (M.cell ptk)
                repeat (go_big_quiet_step (fail))
                refine wpQuiet_nil ?_
                clear e0 e3 M s0 s1 pti ptk
                intro w4 hb4
                have HO4 := Lib.hid (OwnR.kept HOa.out hb4)
                have HB4 := Lib.hid (HBa.out.trans (hb4.mono HBa.out.size))
                clear hb4
                go_wp2
                go_roundw
                case rel => exact ⟨a + 1, by have := HLTA.out; omega, by go_num, by rw [HNXA.out]; exact HO4.out, HB4.out⟩
                case measure => have := HLTA.out; simp [intOf] <;> omega
            · have hke : a = arcs.length := by omega
              subst hke
              rw [List.take_length] at HOa
              clear ho hB hlta
              go_wp2
              go_roundw
              case rel => exact ⟨k + 1, by have := HKI.out; omega, by go_num, by rw [HNXK.out]; exact HOa.out, HBa.out⟩
              case measure => have := HKI.out; simp [intOf] <;> omega
        · have hke : k = i := by omega
          subst hke
          have hrow := lvRow_next (P := P) (n := T.length) HPL.out HLT.out
          rw [HPI.out] at hrow
          simp only at hrow
          rw [hrow] at HOk
          clear ho hB hki hrow
          go_wp2
          go_roundw
          case rel => exact ⟨k + 1, by have := HLT.out; omega, by go_num, HOk.out, HBk.out⟩
          case measure => have := HLT.out; simp [intOf] <;> omega
    · have hke : i = T.length := by omega
      subst hke
      rw [lvHead_all HPL.out] at HOi
      clear ho hB hlt hi
      have HLE := Lib.hid (OwnI.ints HOi.out)
      clear HOi
      go_wp2
      generalize wr = wE at *
      go_loopw [12, 13, 14, 15] (fun ov jv _ _ wr => ∃ j : Nat, j ≤ N.length ∧ jv = .int .i64 j ∧ OwnI wr wE.heap.size ov ((N.take j).map (levOf P)) ∧ Below wE.heap.size wE wr) (fun _ jv _ _ _ => N.length - (intOf jv).toNat)
      case atStart => exact ⟨0, by omega, rfl, OwnR.nil _ _ _ _ _, Below.refl _ _⟩
      case round =>
        obtain ⟨j, hj, rfl, ho, hB⟩ := hrel
        have HOj := Lib.hid ho
        have HBj := Lib.hid hB
        by_cases hlt : j < N.length
        · have HLT := Lib.hid hlt
          have K0 : (0 : Int) ≤ (j : Int) := by omega
          have K1 : (j : Int) < (N.length : Int) := by omega
          have K2 : (j : Int) ≤ 1000 := by have := HNL.out; omega
          obtain ⟨gn, on, _, e, _, hgn, pn0⟩ := ((HN2.out.below HBi.out).below hB).spot j hlt
          cases e
          have hnx : (N.take (j + 1)).map (levOf P) = (N.take j).map (levOf P) ++ [levOf P (N[j]'hlt)] := by
            rw [List.take_succ_eq_append_getElem hlt, List.map_append]
            rfl
          have hfl : ((N.take j).map (levOf P)).length ≤ 1000 := by rw [List.length_map, List.length_take]; have := HNL.out; omega
          generalize N[j]'hlt = x at *
          have PNJ := Lib.hid fun (w' : World) (h : Below wr.heap.size wr w') => (h.cell (p := ⟨gn, on + j, none⟩) hgn).trans pn0
          have HNX := Lib.hid hnx
          have HFL := Lib.hid hfl
          generalize (N.take j).map (levOf P) = O at *
          obtain ⟨aO, cO, e⟩ := RowsAt.form (OwnR.rows csI_len HOj.out)
          subst e
          clear ho hB pn0 hnx hfl
          go_wp2
          generalize wr = wr2 at *
          go_loopw [14, 15] (fun nv kv wr => ∃ k : Nat, k ≤ P.length ∧ kv = .int .i64 k ∧ nv = .int .i64 (levOf (P.take k) x) ∧ Below wr2.heap.size wr2 wr) (fun _ kv _ => P.length - (intOf kv).toNat)
          case atStart => exact ⟨0, by omega, rfl, rfl, Below.refl _ _⟩
          case round =>
            obtain ⟨k, hk, rfl, rfl, hB⟩ := hrel
            have HBk := Lib.hid hB
            have hlen := HPL.out
            by_cases hkl : k < P.length
            · have HKL := Lib.hid hkl
              have J0 : (0 : Int) ≤ (k : Int) := by omega
              have J1 : (k : Int) < (T.length : Int) := by omega
              have J2 : (k : Int) ≤ 1000 := by have := HTL.out; omega
              have hallB := HBj.out.trans (hB.mono HBj.out.size)
              obtain ⟨gt, ot, _, e, _, _, pt0⟩ := ((HT.out.below HBi.out).below hallB).spot k (by omega)
              cases e
              obtain ⟨gl, ol, _, e, _, _, pl0⟩ := (HLE.out.below hallB).spot k (by rw [List.length_map]; exact hkl)
              rw [List.length_map, hlen] at e
              cases e
              rw [Nat.zero_add] at pl0
              have hpatk := HPAT.out k (by omega) hkl
              have hnxk := levOf_take P x k hkl
              have hml : (P.map Prod.snd)[k]'(by rw [List.length_map]; exact hkl) = (P[k]'hkl).2 := by rw [List.getElem_map]
              rw [hml] at pl0
              obtain ⟨⟨y, q⟩, hq⟩ : ∃ p, P[k]'hkl = p := ⟨_, rfl⟩
              rw [hq] at hpatk hnxk pl0
              have hy : T[k]'(by omega) = y := (congrArg Prod.fst hpatk).symm
              rw [hy] at pt0
              simp only at hnxk pl0
              have pnj := PNJ.out wr hB
              have HXY := Lib.hid hnxk
              clear hB hallB hpatk hnxk hml hq hy hlen
              generalize levOf (P.take k) x = m at *
              by_cases hyx : y = x
              · subst hyx
                rw [if_pos rfl] at HXY
                go_wp2
                refine wp_region_calm0 (by kernel_rfl) (by kernel_rfl) fun M => ?_
                have e0 := fun n : In M.w => n.cell (M.cell pt0)
                have e1 := fun n : In M.w => n.cell (M.cell pnj)
                repeat (go_big_quiet_step (fail))
                refine wpQuiet_nil ?_
                clear e0 e1 M pnj
                intro w4 hb4
                have l0 := (World.cell?_of_block (hb4.block _ (World.block_lt_of_cell? _ _ pl0))).trans pl0
                have HB4 := Lib.hid (HBk.out.trans (hb4.mono HBk.out.size))
                clear hb4 pl0 pt0
                go_wp2
                go_roundw
                case rel => exact ⟨k + 1, by have := HKL.out; omega, by go_num, by rw [HXY.out], HB4.out⟩
                case measure => have := HKL.out; simp [intOf] <;> omega
              · rw [if_neg hyx] at HXY
                have g1 : (y == x) = false := beq_noI hyx
                clear hyx
                go_wp2
                refine wp_region_calm0 (by kernel_rfl) (by kernel_rfl) fun M => ?_
                have e0 := fun n : In M.w => n.cell (M.cell pt0)
                have e1 := fun n : In M.w => n.cell (M.cell pnj)
                repeat (go_big_quiet_step (fail))
                refine wpQuiet_nil ?_
                clear e0 e1 M pnj
                intro w4 hb4
                have HB4 := Lib.hid (HBk.out.trans (hb4.mono HBk.out.size))
                clear hb4 pl0 pt0
                go_wp2
                go_roundw
                case rel => exact ⟨k + 1, by have := HKL.out; omega, by go_num, by rw [HXY.out], HB4.out⟩
                case measure => have := HKL.out; simp [intOf] <;> omega
            · have hke : k = P.length := by omega
              subst hke
              rw [List.take_length]
              have HO5 := Lib.hid (OwnR.kept HOj.out hB)
              have HB5 := Lib.hid (HBj.out.trans (hB.mono HBj.out.size))
              have hTP : ¬ (P.length : Int) < (T.length : Int) := by omega
              rw [← hlen]
              clear hB hkl
              go_wp2_with (at_builtin; refine app1 HO5.out HB5.out.size (by have := HFL.out; omega) rfl _ _ rfl rfl rfl ?_; intro v6 w6 o6 b6; have HO6 := Lib.hid o6; have HB6 := Lib.hid (HB5.out.trans b6); clear o6 b6)
              go_roundw
              case rel => exact ⟨j + 1, by have := HLT.out; omega, by go_num, by rw [HNX.out]; exact HO6.out, HB6.out⟩
              case measure => have := HLT.out; simp [intOf] <;> omega
        · have hke : j = N.length := by omega
          subst hke
          rw [List.take_length, ← HLV.out] at HOj
          clear ho hB hlt
          go_wp2
          go_ret
          exact ⟨_, rfl, HOj.out.base13 (Nat.le_trans HB2.out.size HBi.out.size), HB2.out.trans ((HBi.out.trans (HBj.out.mono HBi.out.size)).mono HB2.out.size)⟩
end Go.Proofs.Ytnfdhlkngjplkaa
