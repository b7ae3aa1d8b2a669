/- The walk of the law CrcLaws. -/
import Derived.Test.YtapdndldfgnhdaaCrcLawC
namespace Go.Proofs.Ytapdndldfgnhdaa
open Go.RowKit

theorem c9_mor0 : mor (sm (nb9 [])) (nb9 []) = sm (nb9 []) := more_rest [] 0

set_option maxHeartbeats 4000000 in
set_option maxRecDepth 100000 in
theorem crcLaws_any (va vb vc : Value) (l lb lc : List UInt8) (w : World) (ha : BytesAt w va l) (hb : BytesAt w vb lb) (hc : BytesAt w vc lc) (hl : l.length ≤ 9223372036854775807) (hlb : lb.length ≤ 9223372036854775807) :
    Calls Try.prog 5 #[va, vb, vc] w fun e w' => e = .returned (.bool true) ∧ Below w.heap.size w w' := by
  have HAL := Lib.hid fun w => cAlive9_any w
  have HA := Lib.hid ha
  have HVB := Lib.hid hb
  have HVC := Lib.hid hc
  obtain ⟨a, c, rfl⟩ := RowsAt.form ha
  obtain ⟨ab, cb, rfl⟩ := RowsAt.form hb
  obtain ⟨ac, cc, rfl⟩ := RowsAt.form hc
  clear ha hb hc
  by_cases hout : 300 < l.length ∨ lb.length < l.length ∨ lc.length < l.length
  · have hway : (300 < (l.length : Int)) ∨ (¬ 300 < (l.length : Int) ∧ (lb.length : Int) < (l.length : Int)) ∨ (¬ 300 < (l.length : Int) ∧ ¬ (lb.length : Int) < (l.length : Int) ∧ (lc.length : Int) < (l.length : Int)) := by omega
    clear hout
    rcases hway with h1 | ⟨h1, h2⟩ | ⟨h1, h2, h3⟩
    all_goals
      go_enter Try.func5, Try.ntmps5
      go_wp2_with (go_at_call 7; (with_reducible refine (HAL.out _).mono ?_); rintro e w1 ⟨rfl, hb⟩)
      go_ret
      exact ⟨rfl, hb⟩
  have n1 : ¬ 300 < (l.length : Int) := by omega
  have n2 : ¬ (lb.length : Int) < (l.length : Int) := by omega
  have n3 : ¬ (lc.length : Int) < (l.length : Int) := by omega
  have hbt : (lb.take l.length).length = l.length := by rw [List.length_take]; omega
  have hct : (lc.take l.length).length = l.length := by rw [List.length_take]; omega
  obtain ⟨X, hml, hsm, hxat⟩ : ∃ X : List UInt8, X.length = l.length ∧ sm (nb9 X) = sm (nb9 l) ^^^ sm (nb9 (lb.take l.length)) ^^^ sm (nb9 (lc.take l.length)) ∧ ∀ j (h : j < l.length) (hx : j < X.length) (h1 : j < lb.length) (h2 : j < lc.length), X[j].toNat = l[j].toNat ^^^ (lb[j].toNat ^^^ lc[j].toNat) := by
    refine ⟨mixB l (lb.take l.length) (lc.take l.length), mixB_len _ _ _ hbt hct, sm_mix _ _ _ hbt hct, fun j h hx h1 h2 => ?_⟩
    rw [mixB_at l _ _ j hx h (by omega) (by omega), List.getElem_take, List.getElem_take]
  have HCB := Lib.hid (HVB.out.front l.length (by omega))
  have HCC := Lib.hid (HVC.out.front l.length (by omega))
  have HSM := Lib.hid hsm
  have HXAT := Lib.hid hxat
  clear hsm hxat hout
  obtain ⟨i0, hi, hz0, hz1, hz2⟩ := info_parts info_byte
  have ho := ownb_empty w
  have hB := (Below.refl w.heap.size w).alloc (Nat.le_refl _) (.cells #[] 5)
  have hA1 := HA.out.kept hB
  go_enter Try.func5, Try.ntmps5
  go_wp2_with (at_builtin; refine wpList_append_rows csB_len (by decide) csB_one rfl _ _ 22 rfl w.heap.size 5 i0 (.int .u8 0) 1 Try.underlying22 hi hz0 hz1 hz2 rfl _ _ rfl ho _ _ rfl hA1 (by unfold maxLen; simp; omega) (by simp; omega) (by simp) ?_)
  intro v0 w1 o1 g1
  have hB1 := OwnR.below ho hB (by simp) g1
  replace o1 : OwnB w1 w.heap.size v0 l := o1
  have HO1 := Lib.hid o1
  obtain ⟨a0, c0, rfl⟩ := RowsAt.form o1.bytes
  clear ho hB g1 o1 hA1
  go_wp2
  go_loopw [8, 34] (fun _ i wr => ∃ k : Nat, k ≤ l.length ∧ i = .int .i64 k ∧ OwnB wr w.heap.size (.slice a0 l.length c0) (X.take k ++ l.drop k) ∧ Below w.heap.size w wr) (fun _ i _ => l.length - (intOf i).toNat)
  case atStart => exact ⟨0, Nat.zero_le _, rfl, by simpa using HO1.out, hB1⟩
  case round =>
    clear hB1 HO1
    obtain ⟨k, hk, rfl, hown, hB⟩ := hrel
    by_cases hlt : k < l.length
    · have hxl : k < X.length := by omega
      have HB0 := Lib.hid hB
      have hLl := lay_len X l k hk hml
      have hnx := lay_next X l k hlt hml
      obtain ⟨g, cap, e, hBg, hcap, hfr⟩ := hown.some (by omega)
      rw [hLl] at e
      cases e
      obtain ⟨g', o', c', e, _, _, p0⟩ := hown.bytes.at k (by omega)
      rw [hLl] at e
      cases e
      rw [lay_at X l k hlt hml (by omega), Nat.zero_add] at p0
      obtain ⟨gb, ob, cb', e, _, _, p1⟩ := BytesAt.at (HVB.out.kept hB) k (by omega)
      cases e
      obtain ⟨gc, oc, cc', e, _, _, p2⟩ := BytesAt.at (HVC.out.kept hB) k (by omega)
      cases e
      have hxx := HXAT.out k hlt (by omega) (by omega) (by omega)
      have x1 := u8_xor_nat lb[k].toNat lc[k].toNat (lb[k].toNat_lt) (lc[k].toNat_lt)
      have x2 := u8_xor_nat l[k].toNat (lb[k].toNat ^^^ lc[k].toNat) (l[k].toNat_lt) (Nat.xor_lt_two_pow (n := 8) (lb[k].toNat_lt) (lc[k].toNat_lt))
      rw [← hxx] at x2
      obtain ⟨xb, hxb⟩ : ∃ b, X[k]'hxl = b := ⟨_, rfl⟩
      rw [hxb] at x2
      have k0 : (0 : Int) ≤ (k : Int) := by omega
      have k1 : (k : Int) < (l.length : Int) := by omega
      have k2 : (k : Int) < (lb.length : Int) := by omega
      have k3 : (k : Int) < (lc.length : Int) := by omega
      have HNX := Lib.hid hnx
      have HOWN := Lib.hid hown
      generalize lb[k].toNat ^^^ lc[k].toNat = m at *
      generalize lb[k].toNat = y at *
      generalize lc[k].toNat = z at *
      generalize l[k].toNat = t at *
      clear hnx hown hfr hLl hxx hB HNX
      go_wp2
      refine wp_region_calmT 15 (by kernel_rfl) (by simp) (by kernel_rfl) fun M => ?_
      simp only [List.take_succ_cons, List.take_zero, List.drop_succ_cons, List.drop_zero]
      have e0 := fun n : In M.w => n.cell (M.cell p0)
      have e1 := fun n : In M.w => n.cell (M.cell p1)
      have e2 := fun n : In M.w => n.cell (M.cell p2)
      repeat (go_big_quiet_step (fail))
      refine wpQuiet_nil ?_
      intro w2 hb2
      have hB2 := HB0.out.trans (hb2.mono HB0.out.size)
      have hown : OwnB w2 w.heap.size (.slice (some ⟨g, 0, none⟩) l.length c0) (X.take k ++ l.drop k) := HOWN.out.kept hb2
      obtain ⟨g', cap', e, _, _, hfr⟩ := hown.some (by rw [lay_len X l k (by omega) hml]; omega)
      rw [lay_len X l k (by omega) hml] at e
      cases e
      have z0 := hfr k
      have q0 := (hb2.cell (World.block_lt_of_cell? _ _ p0)).trans p0
      have hnx := lay_next X l k hlt hml
      rw [hxb] at hnx
      have hput := OwnB.put hown k (by rw [lay_len X l k (by omega) hml]; omega) xb
      rw [hnx] at hput
      have hB3 := hB2.setCell (p := ⟨g, k, none⟩) hBg (.int .u8 (xb.toNat : Int))
      generalize xb.toNat = x at *
      have HPUT := Lib.hid hput
      clear e0 e1 e2 M p0 p1 p2 hown hfr hput hb2 HOWN
      go_wp2
      go_roundw
      case rel => exact ⟨k + 1, by omega, by go_num, HPUT.out, hB3⟩
      case measure => simp [intOf] <;> omega
    · have hke : k = l.length := by omega
      subst hke
      rw [List.take_of_length_le (by omega), List.drop_of_length_le (by omega), List.append_nil] at hown
      have HOB := Lib.hid (OwnR.rows csB_len hown)
      have HB := Lib.hid hB
      have s1 := sm_lt (nb9 X)
      have s2 := sm_lt (nb9 l)
      have s3 := sm_lt (nb9 (lb.take l.length))
      have s4 := sm_lt (nb9 (lc.take l.length))
      have g1 := fun w ha => cSum9_any (.slice a l.length c) l w ha (by omega)
      have g2 := fun w ha => cSum9_any (.slice a0 l.length c0) X w ha (by omega)
      have g3 := fun w ha => cSum9_any (.slice ab l.length cb) (lb.take l.length) w ha (by omega)
      have g4 := fun w ha => cSum9_any (.slice ac l.length cc) (lc.take l.length) w ha (by omega)
      have x1 := u32_xor_nat (sm (nb9 l)) (sm (nb9 (lb.take l.length))) s2 s3
      have x2 := u32_xor_nat (sm (nb9 l) ^^^ sm (nb9 (lb.take l.length))) (sm (nb9 (lc.take l.length))) (Nat.xor_lt_two_pow (n := 32) s2 s3) s4
      rw [← HSM.out] at x2
      have hmr := more_rest l
      have hsml := fun k => sm_lt (nb9 (l.take k))
      generalize sm (nb9 X) = y1 at *
      generalize hy2 : sm (nb9 l) = y2 at *
      generalize sm (nb9 (lb.take l.length)) = y3 at *
      generalize sm (nb9 (lc.take l.length)) = y4 at *
      generalize y2 ^^^ y3 = y5 at *
      have G1 := Lib.hid g1
      have G2 := Lib.hid g2
      have G3 := Lib.hid g3
      have G4 := Lib.hid g4
      have HMR := Lib.hid hmr
      have HSL := Lib.hid hsml
      have c1 : l.length ≤ cb := by obtain ⟨_, _, e, h, _⟩ := HVB.out; cases e; omega
      have c2 : l.length ≤ cc := by obtain ⟨_, _, e, h, _⟩ := HVC.out; cases e; omega
      have c3 : l.length ≤ c := by obtain ⟨_, _, e, h, _⟩ := HA.out; cases e; exact h
      clear g1 g2 g3 g4 hown hB s1 s2 s3 s4 hmr hsml HSM HXAT hy2
      go_wp2
      refine wp_region_calm0 (by kernel_rfl) (by kernel_rfl) fun M => ?_
      have H1 := Lib.hid fun n : In M.w => ((HA.out.kept HB.out).kept M.h).kept n.h
      have H2 := Lib.hid fun n : In M.w => (HOB.out.kept M.h).kept n.h
      have H3 := Lib.hid fun n : In M.w => ((HCB.out.kept HB.out).kept M.h).kept n.h
      have H4 := Lib.hid fun n : In M.w => ((HCC.out.kept HB.out).kept M.h).kept n.h
      repeat (go_big_quiet_step (first
        | (go_at_call 8; with_reducible exact In.call (G1.out _ (H1.out _)))
        | (go_at_call 8; with_reducible exact In.call (G2.out _ (H2.out _)))
        | (go_at_call 8; with_reducible exact In.call (G3.out _ (H3.out _)))
        | (go_at_call 8; with_reducible exact In.call (G4.out _ (H4.out _)))))
      refine wpQuiet_nil ?_
      intro w3 hb3
      replace HB := Lib.hid (HB.out.trans (hb3.mono HB.out.size))
      clear H1 H2 H3 H4 M hb3 HOB G2 G3 G4 HCB HCC HVB HVC
      by_cases h0 : l.length = 0
      · have hl0 : l = [] := List.length_eq_zero_iff.1 h0
        subst hl0
        have hm0 := HMR.out 0
        have g5 := fun w ha => cSum9_any (.slice a 0 c) [] w ha (by simp)
        have g6 := fun w va ha => cMore9_any (sm (nb9 [])) va [] w ha (by simp) (sm_lt _)
        simp only [List.take_nil, List.drop_nil] at hm0
        rw [hm0, c9_mor0.symm.trans hm0] at g6
        rw [c9_mor0.symm.trans hm0] at g5
        have G5 := Lib.hid g5
        have G6 := Lib.hid g6
        clear g5 g6 hm0 HMR HSL
        have H1 := Lib.hid fun (w : World) => RowsAt.empty w 1 csB a c
        go_wp2
        refine wp_region_calm0 (by kernel_rfl) (by kernel_rfl) fun M => ?_
        repeat (go_big_quiet_step (first
          | (go_at_call 10; with_reducible exact In.call (G6.out _ _ (H1.out _)))
          | (go_at_call 8; with_reducible exact In.call (G5.out _ (H1.out _)))
          | (go_at_call 7; with_reducible exact In.call (HAL.out _))))
        refine wpQuiet_nil ?_
        intro w4 hb4
        replace HB := Lib.hid (HB.out.trans (hb4.mono HB.out.size))
        clear H1 M hb4
        go_wp2
        go_ret
        exact ⟨rfl, HB.out⟩
      · obtain ⟨g, o, ce, e, _, _, p0⟩ := BytesAt.at (HA.out.kept HB.out) 0 (by omega)
        cases e
        have ht2 : (l[0].toNat : Int) < 256 := by have := l[0].toNat_lt; omega
        generalize l[0].toNat = t at *
        obtain ⟨K, hK⟩ : ∃ K, t % (l.length + 1) = K := ⟨_, rfl⟩
        have hKl : K ≤ l.length := by have := Nat.mod_lt t (show 0 < l.length + 1 by omega); omega
        have hKi : (t : Int) % ((l.length : Int) + 1) = (K : Int) := by rw [← hK]; simp
        have hp : 0 < (l.length : Int) := by omega
        have hq : ¬ ((l.length : Int) + 1 = 0) := by omega
        have ht : (0 : Int) ≤ (t : Int) := by omega
        rw [Nat.add_zero] at p0
        clear hK
        have hm := HMR.out K
        have hlt9 := HSL.out K
        have g5 := fun w ha => cSum9_any (.slice (some ⟨g, o, none⟩) K c) (l.take K) w ha (by rw [List.length_take]; omega)
        have g6 := fun w va ha => cMore9_any (sm (nb9 (l.take K))) va (l.drop K) w ha (by rw [List.length_drop]; omega) hlt9
        rw [hm] at g6
        generalize sm (nb9 (l.take K)) = y6 at *
        have G5 := Lib.hid g5
        have G6 := Lib.hid g6
        have HF := Lib.hid (HA.out.front K hKl)
        have hrest := fun b hb => RowsAt.rest9 HA.out K hKl b hb
        clear g5 g6 hm hlt9 HMR HSL
        by_cases hcK : c = K
        · have hP := hrest (some ⟨g, o, none⟩) (fun g o _ h => by omega)
          rw [show c - K = 0 by omega, show l.length - K = 0 by omega] at hP
          have HP := Lib.hid hP
          clear hrest hP
          subst hcK
          go_wp2
          refine wp_region_calm0 (by kernel_rfl) (by kernel_rfl) fun M => ?_
          have H1 := Lib.hid fun n : In M.w => ((HA.out.kept HB.out).kept M.h).kept n.h
          have H2 := Lib.hid fun n : In M.w => ((HF.out.kept HB.out).kept M.h).kept n.h
          have H3 := Lib.hid fun n : In M.w => ((HP.out.kept HB.out).kept M.h).kept n.h
          repeat (go_big_quiet_step (first
            | (go_at_call 10; with_reducible exact In.call (G6.out _ _ (H3.out _)))
            | (go_at_call 8; with_reducible exact In.call (G5.out _ (H2.out _)))
            | (go_at_call 8; with_reducible exact In.call (G1.out _ (H1.out _)))
            | (go_at_call 7; with_reducible exact In.call (HAL.out _))))
          refine wpQuiet_nil ?_
          intro w4 hb4
          replace HB := Lib.hid (HB.out.trans (hb4.mono HB.out.size))
          clear H1 H2 H3 M hb4
          go_wp2
          go_ret
          exact ⟨rfl, HB.out⟩
        · have hP := hrest (some ⟨g, o + K, none⟩) (fun g o e _ => by cases e; simp)
          have HP := Lib.hid hP
          clear hrest hP
          go_wp2
          refine wp_region_calm0 (by kernel_rfl) (by kernel_rfl) fun M => ?_
          have H1 := Lib.hid fun n : In M.w => ((HA.out.kept HB.out).kept M.h).kept n.h
          have H2 := Lib.hid fun n : In M.w => ((HF.out.kept HB.out).kept M.h).kept n.h
          have H3 := Lib.hid fun n : In M.w => ((HP.out.kept HB.out).kept M.h).kept n.h
          repeat (go_big_quiet_step (first
            | (go_at_call 10; with_reducible exact In.call (G6.out _ _ (H3.out _)))
            | (go_at_call 8; with_reducible exact In.call (G5.out _ (H2.out _)))
            | (go_at_call 8; with_reducible exact In.call (G1.out _ (H1.out _)))
            | (go_at_call 7; with_reducible exact In.call (HAL.out _))))
          refine wpQuiet_nil ?_
          intro w4 hb4
          replace HB := Lib.hid (HB.out.trans (hb4.mono HB.out.size))
          clear H1 H2 H3 M hb4
          go_wp2
          go_ret
          exact ⟨rfl, HB.out⟩
end Go.Proofs.Ytapdndldfgnhdaa
