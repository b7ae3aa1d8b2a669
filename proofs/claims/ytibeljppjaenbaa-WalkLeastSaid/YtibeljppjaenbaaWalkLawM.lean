/- The law WalkLeast. -/
import Derived.Test.YtibeljppjaenbaaWalkLeastB
import Derived.Test.YtibeljppjaenbaaWalkAlive
import Derived.Test.YtibeljppjaenbaaWalkI
import Derived.Test.YtibeljppjaenbaaWalkL
namespace Go.Proofs.Ytibeljppjaenbaa
open Go.RowKit

theorem wtx_small {l : List (Int × Int)} : (wtx l).length ≤ 22 * l.length := by
  have h := wtx_le l l.length
  rw [List.take_length] at h
  exact h

set_option maxHeartbeats 2000000 in
set_option maxRecDepth 100000 in
theorem walkLeast_any (va : Value) (l : List (Int × Int)) (w : World) (ha : PairsAt w va l) (hl : l.length ≤ 9223372036854775807) :
    Calls Try.prog 7 #[va] w fun e w' => e = .returned (.bool true) ∧ Below w.heap.size w w' := by
  have hB := Below.refl w.heap.size w
  have hal := fun w => walkAlive_any w
  have HAL := Lib.hid hal
  have HA := Lib.hid ha
  have hform : ∃ a c, va = .slice a l.length c := by obtain ⟨a, c, e, _⟩ := ha; exact ⟨a, c, e⟩
  obtain ⟨a, c, rfl⟩ := hform
  clear hal ha
  by_cases h1 : 40 < l.length
  · go_enter Try.func7, Try.ntmps7
    go_wp2_with (go_at_call 8; refine (HAL.out _).mono ?_; rintro e w1 ⟨rfl, hb⟩)
    go_ret
    exact ⟨rfl, hb⟩
  have hnear := fun w ha => refNear_any (.slice a l.length c) l 250 w ha (by omega) (by decide) (by decide)
  by_cases h2 : stps l ≤ 250
  case neg =>
    rw [decide_eq_false h2] at hnear
    have HN := Lib.hid hnear
    clear hnear h2
    go_enter Try.func7, Try.ntmps7
    go_wp2_with (first
      | (go_at_call 23; refine (HN.out _ HA.out).mono ?_; rintro e w1 ⟨rfl, hb⟩; replace hB := hB.trans (hb.mono hB.size); clear hb)
      | (go_at_call 8; refine (HAL.out _).mono ?_; rintro e w1 ⟨rfl, hb⟩; replace hB := hB.trans (hb.mono hB.size); clear hb))
    go_ret
    exact ⟨rfl, hB⟩
  rw [decide_eq_true h2] at hnear
  obtain ⟨hf, _⟩ := near_few h2
  have hle : (outs (nrm l)).length ≤ l.length := Nat.le_trans (outs_len _) (nrm_len l)
  have hrl := revw_len l
  have hs1 := fun w v h => wShort_any v l w h (by omega)
  have hs2 := fun w v h => wShort_any v (outs (nrm l)) w h (by omega)
  have hs3 := fun w v h => wShort_any v (l ++ revw l) w h (by rw [List.length_append]; omega)
  have hr := fun w v h => wReverse_any v l w h (by omega)
  have hbo := fun w v1 v2 h1 h2 => wboth_any v1 v2 l (revw l) w h1 h2 (by omega) (by omega)
  have he1 := fun w v h => wEnd_any v (outs (nrm l)) w h (by omega)
  have he2 := fun w v h => wEnd_any v l w h (by omega)
  have hsm := fun w v1 v2 h1 h2 => refSame_any v1 v2 (outs (nrm l)) (outs (nrm l)) w h1 h2 (by omega) (by omega)
  have htx := fun w v h => wText_any v (outs (nrm l)) w h (by omega)
  have hpa := fun w => wParse_any (bz (wtx (outs (nrm l)))) w (by rw [bz_size]; have := wtx_small (l := outs (nrm l)); omega) _ (wrun_wtx (outs_tx h2))
  have htn : ∀ (i : Nat) (x y : Int × Int), (outs (nrm l))[i]? = some x → (outs (nrm l))[i + 1]? = some y → decide (x.1 ≤ 2) ≠ decide (y.1 ≤ 2) := by
    intro i x y h3 h4
    obtain ⟨h5, rfl⟩ := List.getElem?_eq_some_iff.1 h3
    obtain ⟨h6, rfl⟩ := List.getElem?_eq_some_iff.1 h4
    exact outs_turn hf i h6
  rw [srt_few hf] at hs1
  rw [srt_again hf] at hs2
  rw [srt_rev] at hs3
  rw [eend_short hf] at he1
  rw [show decide (outs (nrm l) = outs (nrm l)) = true from decide_eq_true rfl] at hsm
  simp only at hs1 hs2 hs3 hpa
  generalize l ++ revw l = lr at hs3 hbo
  generalize revw l = rl at hr hbo
  generalize outs (nrm l) = L at *
  generalize bz (wtx L) = tx at htx hpa
  obtain ⟨⟨T, X, Y⟩, hE⟩ : ∃ e, eend l = e := ⟨_, rfl⟩
  rw [hE] at he1 he2
  simp only at he1 he2
  have HS1 := Lib.hid hs1
  have HS2 := Lib.hid hs2
  have HS3 := Lib.hid hs3
  have HR := Lib.hid hr
  have HBO := Lib.hid hbo
  have HE1 := Lib.hid he1
  have HE2 := Lib.hid he2
  have HSM := Lib.hid hsm
  have HTX := Lib.hid htx
  have HPA := Lib.hid hpa
  have HTN := Lib.hid htn
  have HN := Lib.hid hnear
  have hcnt : ¬ ((l.length : Nat) : Int) < (L.length : Int) := by omega
  clear hs1 hs2 hs3 hr hbo he1 he2 hsm htx hpa htn hnear hE hf hrl h2
  go_enter Try.func7, Try.ntmps7
  go_wp2_with (first
    | (go_at_call 23; refine (HN.out _ HA.out).mono ?_; rintro e w1 ⟨rfl, hb⟩; replace hB := hB.trans (hb.mono hB.size); have hA1 := Lib.hid (HA.out.kept hb); clear hb)
    | (go_at_call 19; refine (HS1.out _ _ hA1.out).mono ?_; rintro e w2 ⟨v2, rfl, hv, hb⟩; replace hB := hB.trans (hb.mono hB.size); have hA2 := Lib.hid (hA1.out.kept hb); have hV2 := Lib.hid hv; obtain ⟨a2, c2, rfl, _, hx2⟩ := hv; clear hb hx2 hA1)
    | (go_at_call 19; refine (HS2.out _ _ hV2.out).mono ?_; rintro e w3 ⟨v3, rfl, hv, hb⟩; replace hB := hB.trans (hb.mono hB.size); have hA3 := Lib.hid (hA2.out.kept hb); have hV3 := Lib.hid (hV2.out.kept hb); have hX3 := Lib.hid hv; obtain ⟨a3, c3, rfl, _, hx3⟩ := hv; clear hb hx3 hV2 hA2)
    | (go_at_call 21; refine (HR.out _ _ hA3.out).mono ?_; rintro e w4 ⟨v4, rfl, hv, hb⟩; replace hB := hB.trans (hb.mono hB.size); have hA4 := Lib.hid (hA3.out.kept hb); have hV4 := Lib.hid (hV3.out.kept hb); have hX4 := Lib.hid (hX3.out.kept hb); have hR4 := Lib.hid hv; clear hb hv hV3)
    | (go_at_call 24; refine (HBO.out _ _ _ hA4.out hR4.out).mono ?_; rintro e w5 ⟨v5, rfl, hv, hb⟩; replace hB := hB.trans (hb.mono hB.size); have hA5 := Lib.hid (hA4.out.kept hb); have hV5 := Lib.hid (hV4.out.kept hb); have hX5 := Lib.hid (hX4.out.kept hb); have hR5 := Lib.hid hv; clear hb hv)
    | (go_at_call 19; refine (HS3.out _ _ hR5.out).mono ?_; rintro e w6 ⟨v6, rfl, hv, hb⟩; replace hB := hB.trans (hb.mono hB.size); have hA6 := Lib.hid (hA5.out.kept hb); have hV6 := Lib.hid (hV5.out.kept hb); have hX6 := Lib.hid (hX5.out.kept hb); obtain ⟨a6, c6, rfl, _, hx6⟩ := hv; clear hb hx6)
    | (go_at_call 16; refine (HE1.out _ _ hV6.out).mono ?_; rintro e w7 ⟨rfl, hb⟩; replace hB := hB.trans (hb.mono hB.size); have hA7 := Lib.hid (hA6.out.kept hb); have hV7 := Lib.hid (hV6.out.kept hb); have hX7 := Lib.hid (hX6.out.kept hb); clear hb hV6)
    | (go_at_call 16; refine (HE2.out _ _ hA7.out).mono ?_; rintro e w8 ⟨rfl, hb⟩; replace hB := hB.trans (hb.mono hB.size); have hV8 := Lib.hid (hV7.out.kept hb); have hX8 := Lib.hid (hX7.out.kept hb); clear hb)
    | (go_at_call 13; refine (HSM.out _ _ _ hV8.out hX8.out).mono ?_; rintro e w9 ⟨rfl, hb⟩; replace hB := hB.trans (hb.mono hB.size); have hV9 := Lib.hid (hV8.out.kept hb); clear hb))
  have hV := hV9.out
  obtain ⟨p, cc, ep, hcc, hcell⟩ := hV
  cases ep
  clear hV7 hV8 hX3 hX4 hX5 hX6 hX7 hX8 hA3 hA4 hA5 hA6 hA7 hR4 hR5 hV4 hV5 HS1 HS2 HS3 HR HBO HE1 HE2 HN HA hcnt
  have hcell' := Lib.hid hcell
  clear hcell
  go_loopw [9] (fun i wr => ∃ k : Nat, 1 ≤ k ∧ k ≤ L.length + 1 ∧ i = .int .i64 k ∧ Below w9.heap.size w9 wr) (fun i _ => L.length + 1 - (intOf i).toNat)
  case atStart => exact ⟨1, by omega, by omega, rfl, Below.refl _ _⟩
  case round =>
    obtain ⟨k, hk1, hk2, rfl, hW⟩ := hrel
    obtain ⟨j, rfl⟩ : ∃ j, k = j + 1 := ⟨k - 1, by omega⟩
    have hjm : (((j + 1 : Nat) : Int) - 1) = (j : Int) := by omega
    by_cases hlt : j + 1 < L.length
    · obtain ⟨g, o, rfl, hg, hx⟩ := hcell'.out (by omega)
      obtain ⟨⟨x1, x2⟩, hxe⟩ : ∃ x, L[j + 1]'hlt = x := ⟨_, rfl⟩
      obtain ⟨⟨y1, y2⟩, hye⟩ : ∃ x, L[j]'(by omega) = x := ⟨_, rfl⟩
      have ex : L[j + 1]? = some (x1, x2) := by rw [List.getElem?_eq_getElem hlt, hxe]
      have ey : L[j]? = some (y1, y2) := by rw [List.getElem?_eq_getElem (by omega), hye]
      have hturn := HTN.out j _ _ ey ex
      simp only at hturn
      have p1 : wr.cell? ⟨g, o + (j + 1) * 2, none⟩ = some (.int .i64 x1) := (hW.cell (p := ⟨g, o + (j + 1) * 2, none⟩) hg).trans (hx _ _ ex).1
      have p2 : wr.cell? ⟨g, o + j * 2, none⟩ = some (.int .i64 y1) := (hW.cell (p := ⟨g, o + j * 2, none⟩) hg).trans (hx _ _ ey).1
      have hkind : (decide (x1 ≤ 2) = true ∧ decide (y1 ≤ 2) = false) ∨ (decide (x1 ≤ 2) = false ∧ decide (y1 ≤ 2) = true) := by
        cases h3 : decide (x1 ≤ 2) <;> cases h4 : decide (y1 ≤ 2) <;> simp_all
      have j0 : (0 : Int) ≤ (j : Int) := by omega
      have j1 : (j : Int) < (L.length : Int) := by omega
      have j2 : ((j : Int) + 1) < (L.length : Int) := by omega
      have j3 : (0 : Int) ≤ (j : Int) + 1 := by omega
      have jt : ((j : Int) + 1).toNat = j + 1 := by omega
      have jw : ((j : Int) + 1) - 1 = (j : Int) := by omega
      clear hx hxe hye ex ey hturn
      rcases hkind with ⟨b1, b2⟩ | ⟨b1, b2⟩
      all_goals
        go_wp2
        refine wp_region_calm0 (by kernel_rfl) (by kernel_rfl) fun M => ?_
        have q1 := fun n : In M.w => n.cell (M.cell p1)
        have q2 := fun n : In M.w => n.cell (M.cell p2)
        repeat (go_big_quiet_step (fail))
        refine wpQuiet_nil ?_
        intro w1 hb1
        clear q1 q2 M
        go_wp2
        go_roundw
        case rel => exact ⟨j + 1 + 1, by omega, by omega, by go_num, hW.trans (hb1.mono hW.size)⟩
        case measure => simp [intOf]; omega
    · have hVr := Lib.hid (hV9.out.kept hW)
      have hB' := hB.trans (hW.mono hB.size)
      clear hcell' hV9
      go_wp2_with (first
        | (go_at_call 11; refine (HTX.out _ _ hVr.out).mono ?_; rintro e w1 ⟨rfl, hb⟩; replace hB' := hB'.trans (hb.mono hB'.size); have hV1 := Lib.hid (hVr.out.kept hb); clear hb)
        | (go_at_call 9; refine (HPA.out _).mono ?_; rintro e w2 ⟨v2, rfl, hv, hb⟩; replace hB' := hB'.trans (hb.mono hB'.size); have hV2 := Lib.hid (hV1.out.kept hb); have hX2 := Lib.hid hv; clear hb hv)
        | (go_at_call 13; refine (HSM.out _ _ _ hX2.out hV2.out).mono ?_; rintro e w3 ⟨rfl, hb⟩; replace hB' := hB'.trans (hb.mono hB'.size); clear hb)
        | (go_at_call 8; refine (HAL.out _).mono ?_; rintro e w4 ⟨rfl, hb⟩; replace hB' := hB'.trans (hb.mono hB'.size); clear hb))
      go_ret
      exact ⟨rfl, hB'⟩
end Go.Proofs.Ytibeljppjaenbaa
