/- The walks of the document's answers for layer 6: is it a fence? -/
import Derived.Test.YthndmoipemnllaaFenceRefA
namespace Go.Proofs.Ythndmoipemnllaa
open Go.RowKit

theorem rightB_small {l : List (Int × Int)} (i : Nat) (hi : i < l.length) (h : smallP (pat l i) 1048576 = false) : rightB l = false :=
  rightB_no fun hr => by rw [hr.2.2.1 i hi] at h; cases h
theorem rightB_turn {l : List (Int × Int)} (i : Nat) (hi : i < l.length) (h : turnAt l i = false) : rightB l = false :=
  rightB_no fun hr => by rw [hr.2.2.2 i hi] at h; cases h

set_option maxHeartbeats 4000000 in
set_option maxRecDepth 100000 in
theorem refRight_any (va : Value) (l : List (Int × Int)) (w : World) (ha : PairsAt w va l) (hl : l.length ≤ 1000000) :
    Calls Try.prog 11 #[va] w fun e w' => e = .returned (.bool (rightB l)) ∧ Below w.heap.size w w' := by
  have HA := Lib.hid ha
  have hform : ∃ a c, va = .slice a l.length c := by obtain ⟨a, c, e, _⟩ := ha; exact ⟨a, c, e⟩
  obtain ⟨a, c, rfl⟩ := hform
  clear ha
  by_cases h1 : l.length < 4
  · have e : rightB l = false := rightB_no fun h => by have := h.1; omega
    rw [e]
    go_enter Try.func11, Try.ntmps11
    go_wp2
    go_ret
    exact ⟨rfl, Below.refl _ _⟩
  by_cases h2 : 256 < l.length
  · have e : rightB l = false := rightB_no fun h => by have := h.2.1; omega
    rw [e]
    go_enter Try.func11, Try.ntmps11
    go_wp2
    go_ret
    exact ⟨rfl, Below.refl _ _⟩
  go_enter Try.func11, Try.ntmps11
  go_wp2
  go_loopw [3] (fun i wr => ∃ k : Nat, k ≤ l.length ∧ i = .int .i64 k ∧ Below w.heap.size w wr ∧ ∀ i, i < k → smallP (pat l i) 1048576 = true) (fun i _ => l.length - (intOf i).toNat)
  case atStart => exact ⟨0, Nat.zero_le _, rfl, Below.refl _ _, fun i hi => absurd hi (by omega)⟩
  case round =>
    obtain ⟨k, hk, rfl, hB, hsm⟩ := hrel
    have HSM := Lib.hid hsm
    clear hsm
    by_cases hlt : k < l.length
    · have HAR := Lib.hid (HA.out.kept (hB.mono (Nat.le_refl _)))
      obtain ⟨g, o, c', ev, hc, hg, p1, p2⟩ := HAR.out.spot k hlt
      cases ev
      have hs := fun w => refSmall_any (pat l k).1 (pat l k).2 1048576 w (by decide) (by decide)
      obtain ⟨b, hb⟩ : ∃ b, smallP (pat l k) 1048576 = b := ⟨_, rfl⟩
      rw [show smallB (pat l k).1 (pat l k).2 1048576 = b from hb] at hs
      obtain ⟨⟨q1, q2⟩, hq⟩ : ∃ q, pat l k = q := ⟨_, rfl⟩
      rw [hq] at hs p1 p2
      simp only at hs p1 p2
      have HS := Lib.hid hs
      have HB' := Lib.hid hb
      clear hs hb hq
      have j1 : (k : Int) < (l.length : Int) := by omega
      cases b
      · go_wp2_with (go_at_call 21; refine (HS.out _).mono ?_; rintro e w1 ⟨rfl, hb⟩; replace hB := hB.trans (hb.mono hB.size); clear hb p1 p2)
        go_ret
        exact ⟨ret_b (rightB_small k hlt HB'.out).symm, hB⟩
      · go_wp2_with (go_at_call 21; refine (HS.out _).mono ?_; rintro e w1 ⟨rfl, hb⟩; replace hB := hB.trans (hb.mono hB.size); clear hb p1 p2)
        go_roundw
        case rel =>
          refine ⟨k + 1, by omega, by go_num, hB, fun i hi => ?_⟩
          by_cases e : i = k
          · rw [e]; exact HB'.out
          · exact HSM.out i (by omega)
        case measure => simp [intOf]; omega
    · have hk2 : k = l.length := by omega
      rw [hk2] at HSM
      clear hk hk2
      go_wp2
      go_loopw [4, 5] (fun i _ wq => ∃ k : Nat, k ≤ l.length ∧ i = .int .i64 k ∧ Below w.heap.size w wq ∧ ∀ i, i < k → turnAt l i = true) (fun i _ _ => l.length - (intOf i).toNat)
      case atStart => exact ⟨0, Nat.zero_le _, rfl, hB, fun i hi => absurd hi (by omega)⟩
      case round =>
        clear hB
        obtain ⟨k, hk, rfl, hB, htu⟩ := hrel
        have HTU := Lib.hid htu
        clear htu
        by_cases hlt3 : k < l.length
        · have hj : (k + 1) % l.length < l.length := Nat.mod_lt _ (by omega)
          have hm : Int.tmod ((k : Int) + 1) (l.length : Int) = (((k + 1) % l.length : Nat) : Int) := by
            rw [Int.tmod_eq_emod_of_nonneg (by omega)]
            rfl
          have hta : turnAt l k = ((lev (pat l k) (nxt l k) && stp (pat l ((k + 1) % l.length)) (nxt l ((k + 1) % l.length))) || (stp (pat l k) (nxt l k) && lev (pat l ((k + 1) % l.length)) (nxt l ((k + 1) % l.length)))) := rfl
          have HAR := Lib.hid (HA.out.kept (hB.mono (Nat.le_refl _)))
          have hl1 := fun w ha => refLevel_any (.slice a l.length c) l k w ha hlt3 hl
          have hs1 := fun w ha => refSteep_any (.slice a l.length c) l k w ha hlt3 hl
          have hl2 := fun w ha => refLevel_any (.slice a l.length c) l _ w ha hj hl
          have hs2 := fun w ha => refSteep_any (.slice a l.length c) l _ w ha hj hl
          generalize (k + 1) % l.length = j at *
          generalize lev (pat l k) (nxt l k) = b1 at *
          generalize stp (pat l k) (nxt l k) = b2 at *
          generalize lev (pat l j) (nxt l j) = b3 at *
          generalize stp (pat l j) (nxt l j) = b4 at *
          have hn0 : ((l.length : Int) == 0) = false := beq_no' (by omega)
          have hn1 : (l.length : Int) ≠ 0 := by omega
          have HL1 := Lib.hid hl1
          have HS1 := Lib.hid hs1
          have HL2 := Lib.hid hl2
          have HS2 := Lib.hid hs2
          have HT := Lib.hid hta
          clear hl1 hs1 hl2 hs2 hta
          cases b1 <;> cases b2 <;> cases b3 <;> cases b4
          all_goals
            go_wp2_with (first
              | (go_at_call 29; (with_reducible refine (HL1.out _ HAR.out).mono ?_); rintro e w1 ⟨rfl, hb⟩; have hB1 := hB.trans (hb.mono hB.size); have HAS := Lib.hid (HAR.out.kept hb); clear hb HAR)
              | (go_at_call 30; (with_reducible refine (HS2.out _ HAS.out).mono ?_); rintro e w2 ⟨rfl, hb⟩; replace hB1 := hB1.trans (hb.mono hB1.size); replace HAS := Lib.hid (HAS.out.kept hb); clear hb)
              | (go_at_call 30; (with_reducible refine (HS1.out _ HAS.out).mono ?_); rintro e w3 ⟨rfl, hb⟩; replace hB1 := hB1.trans (hb.mono hB1.size); replace HAS := Lib.hid (HAS.out.kept hb); clear hb)
              | (go_at_call 29; (with_reducible refine (HL2.out _ HAS.out).mono ?_); rintro e w4 ⟨rfl, hb⟩; replace hB1 := hB1.trans (hb.mono hB1.size); replace HAS := Lib.hid (HAS.out.kept hb); clear hb))
            first
              | (go_ret
                 exact ⟨ret_b (rightB_turn k hlt3 HT.out).symm, hB1⟩)
              | (go_roundw
                 case rel =>
                   refine ⟨k + 1, by omega, by go_num, hB1, fun i hi => ?_⟩
                   by_cases e : i = k
                   · rw [e]; exact HT.out
                   · exact HTU.out i (by omega)
                 case measure => simp [intOf]; omega)
        · have hk2 : k = l.length := by omega
          have hr : rightB l = true := (rightB_iff l).2 ⟨by omega, by omega, HSM.out, fun i hi => HTU.out i (by omega)⟩
          have HR := Lib.hid hr
          clear hr hk2
          go_wp2
          go_ret
          exact ⟨ret_b HR.out.symm, hB⟩
end Go.Proofs.Ythndmoipemnllaa
