/- The laws of layer 10 that hold the program against the document: FrameWrites, FrameReads. -/
import Derived.Test.YtmmaodcihpgdfaaFrameAlive
namespace Go.Proofs.Ytmmaodcihpgdfaa
open Go.RowKit

theorem allF_len (l : List UInt8) : (allF l).1.length ≤ l.length := by
  induction hn : l.length using Nat.strongRecOn generalizing l with
  | ind n ih =>
    by_cases h : (readF l).2.2 = 0
    · rw [allF_next l h]
      have hk := readF_ok l h
      have := ih _ (by omega) (readF l).2.1 rfl
      simp only [List.length_cons]
      omega
    · rw [allF_end l h]
      exact Nat.zero_le _

set_option maxHeartbeats 2000000 in
set_option maxRecDepth 100000 in
theorem frameWrites_any (va vp : Value) (l p : List UInt8) (n : Int) (w : World) (ha : BytesAt w va l) (hp : BytesAt w vp p) (hpl : p.length ≤ 9223372036854775807) (hn : -9223372036854775808 ≤ n ∧ n ≤ 9223372036854775807) :
    Calls Try.prog 3 #[va, vp, .int .i64 n] w fun e w' => e = .returned (.bool true) ∧ Below w.heap.size w w' := by
  have HAL := Lib.hid fun w => fAlive10_any w
  have HA := Lib.hid ha
  have HP := Lib.hid hp
  obtain ⟨a, c, rfl⟩ := RowsAt.form ha
  obtain ⟨a', c', rfl⟩ := RowsAt.form hp
  clear ha hp
  by_cases hout : 300 < l.length ∨ (300 < p.length ∧ p.length ≤ 65536)
  · have hway : (300 < (l.length : Int)) ∨ (¬ 300 < (l.length : Int) ∧ 300 < (p.length : Int) ∧ (p.length : Int) ≤ 65536) := by omega
    clear hout
    rcases hway with h1 | ⟨h1, h2, h3⟩
    all_goals
      go_enter Try.func3, Try.ntmps3
      go_wp2_with (go_at_call 7; (with_reducible refine (HAL.out _).mono ?_); rintro e w1 ⟨rfl, hb⟩)
      go_ret
      exact ⟨rfl, hb⟩
  · have g1 := fun w ha hp => fWrite10_any (.slice a l.length c) (.slice a' p.length c') l p w ha hp (by omega) hpl
    have g2 := fun w ha hp => refWrite10_any (.slice a l.length c) (.slice a' p.length c') l p w ha hp (by omega) hpl
    have g3 := fun w => fSize10_any n w hn
    have g4 := fun w => refSize10_any n w hn
    obtain ⟨⟨R, e⟩, hR⟩ : ∃ t, wrF l p = t := ⟨_, rfl⟩
    rw [hR] at g1 g2
    simp only at g1 g2
    generalize szF n = z at *
    have gs := fun w va vb ha hb => refBSame_any va vb R R w ha hb
    rw [decide_eq_true rfl] at gs
    have G1 := Lib.hid g1
    have G2 := Lib.hid g2
    have G3 := Lib.hid g3
    have G4 := Lib.hid g4
    have GS := Lib.hid gs
    have hway : (¬ 300 < (l.length : Int) ∧ ¬ 300 < (p.length : Int)) ∨ (¬ 300 < (l.length : Int) ∧ 300 < (p.length : Int) ∧ ¬ (p.length : Int) ≤ 65536) := by omega
    clear g1 g2 g3 g4 gs hR hout hpl hn
    rcases hway with ⟨h1, h2⟩ | ⟨h1, h2, h3⟩
    all_goals
      go_enter Try.func3, Try.ntmps3
      go_wp2_with (first
        | (go_at_call 8; (with_reducible refine (G1.out _ HA.out HP.out).mono ?_); rintro e w1 ⟨v1, rfl, hp1, hb1⟩; have HP1 := Lib.hid hp1; have HB := Lib.hid hb1; clear hp1 hb1)
        | (go_at_call 9; (with_reducible refine (G2.out _ (HA.out.kept HB.out) (HP.out.kept HB.out)).mono ?_); rintro e w2 ⟨v2, rfl, hp2, hb2⟩; replace HP1 := Lib.hid (HP1.out.kept hb2); have HP2 := Lib.hid hp2; replace HB := Lib.hid (HB.out.trans (hb2.mono HB.out.size)); clear hp2 hb2)
        | (go_at_call 10; (with_reducible refine (GS.out _ _ _ HP1.out HP2.out).mono ?_); rintro e w5 ⟨rfl, rfl⟩; clear HP1 HP2)
        | (go_at_call 11; (with_reducible refine (G3.out _).mono ?_); rintro e w6 ⟨rfl, hb6⟩; replace HB := Lib.hid (HB.out.trans (hb6.mono HB.out.size)); clear hb6)
        | (go_at_call 12; (with_reducible refine (G4.out _).mono ?_); rintro e w7 ⟨rfl, rfl⟩)
        | (go_at_call 7; (with_reducible refine (HAL.out _).mono ?_); rintro e w8 ⟨rfl, hb8⟩; replace HB := Lib.hid (HB.out.trans (hb8.mono HB.out.size)); clear hb8))
      go_ret
      exact ⟨rfl, HB.out⟩

set_option maxHeartbeats 2000000 in
set_option maxRecDepth 100000 in
theorem frameReads_any (va : Value) (l : List UInt8) (w : World) (ha : BytesAt w va l) :
    Calls Try.prog 4 #[va] w fun e w' => e = .returned (.bool true) ∧ Below w.heap.size w w' := by
  have HAL := Lib.hid fun w => fAlive10_any w
  have HA := Lib.hid ha
  obtain ⟨a, c, rfl⟩ := RowsAt.form ha
  clear ha
  by_cases h600 : 600 < l.length
  · go_enter Try.func4, Try.ntmps4
    go_wp2_with (go_at_call 7; (with_reducible refine (HAL.out _).mono ?_); rintro e w1 ⟨rfl, hb⟩)
    go_ret
    exact ⟨rfl, hb⟩
  · have g1 := fun w ha => fRead10_any (.slice a l.length c) l w ha (by omega)
    have g2 := fun w ha => refRead10_any (.slice a l.length c) l w ha (by omega)
    have g3 := fun w ha => fAll10_any (.slice a l.length c) l w ha (by omega)
    have g4 := fun w ha => refAll10_any (.slice a l.length c) l w ha (by omega)
    have hal := allF_len l
    obtain ⟨⟨X, Y, e⟩, hR⟩ : ∃ t, readF l = t := ⟨_, rfl⟩
    obtain ⟨⟨Z, k⟩, hZ⟩ : ∃ t, allF l = t := ⟨_, rfl⟩
    rw [hR] at g1 g2
    rw [hZ] at g3 g4 hal
    simp only at g1 g2 g3 g4 hal
    have gx := fun w va vb ha hb => refBSame_any va vb X X w ha hb
    have gy := fun w va vb ha hb => refBSame_any va vb Y Y w ha hb
    have gz := fun w va vb ha hb => refRows10_any va vb Z Z w ha hb (by omega) (by omega)
    rw [decide_eq_true rfl] at gx gy gz
    have G1 := Lib.hid g1
    have G2 := Lib.hid g2
    have G3 := Lib.hid g3
    have G4 := Lib.hid g4
    have GX := Lib.hid gx
    have GY := Lib.hid gy
    have GZ := Lib.hid gz
    clear g1 g2 g3 g4 gx gy gz hR hZ hal
    go_enter Try.func4, Try.ntmps4
    go_wp2_with (first
      | (go_at_call 13; (with_reducible refine (G1.out _ HA.out).mono ?_); rintro e w1 ⟨v1, u1, rfl, hp1, hq1, hb1⟩; have HP1 := Lib.hid hp1; have HQ1 := Lib.hid hq1; have HB := Lib.hid hb1; clear hp1 hq1 hb1)
      | (go_at_call 14; (with_reducible refine (G2.out _ (HA.out.kept HB.out)).mono ?_); rintro e w2 ⟨v2, u2, rfl, hp2, hq2, hb2⟩; replace HP1 := Lib.hid (HP1.out.kept hb2); replace HQ1 := Lib.hid (HQ1.out.kept hb2); have HP2 := Lib.hid (OwnB.bytes hp2); have HQ2 := Lib.hid (OwnB.bytes hq2); replace HB := Lib.hid (HB.out.trans (hb2.mono HB.out.size)); clear hp2 hq2 hb2)
      | (go_at_call 15; (with_reducible refine (G3.out _ (HA.out.kept HB.out)).mono ?_); rintro e w3 ⟨v3, rfl, hp3, hb3⟩; replace HP1 := Lib.hid (HP1.out.kept hb3); replace HQ1 := Lib.hid (HQ1.out.kept hb3); replace HP2 := Lib.hid (HP2.out.kept hb3); replace HQ2 := Lib.hid (HQ2.out.kept hb3); have HP3 := Lib.hid hp3; replace HB := Lib.hid (HB.out.trans (hb3.mono HB.out.size)); clear hp3 hb3)
      | (go_at_call 16; (with_reducible refine (G4.out _ (HA.out.kept HB.out)).mono ?_); rintro e w4 ⟨v4, rfl, hp4, hb4⟩; replace HP1 := Lib.hid (HP1.out.kept hb4); replace HQ1 := Lib.hid (HQ1.out.kept hb4); replace HP2 := Lib.hid (HP2.out.kept hb4); replace HQ2 := Lib.hid (HQ2.out.kept hb4); replace HP3 := Lib.hid (HP3.out.kept hb4); have HP4 := Lib.hid hp4; replace HB := Lib.hid (HB.out.trans (hb4.mono HB.out.size)); clear hp4 hb4)
      | (go_at_call 10; (with_reducible refine (GX.out _ _ _ HP1.out HP2.out).mono ?_); rintro e w5 ⟨rfl, rfl⟩; clear HP1 HP2)
      | (go_at_call 10; (with_reducible refine (GY.out _ _ _ HQ1.out HQ2.out).mono ?_); rintro e w5 ⟨rfl, rfl⟩; clear HQ1 HQ2)
      | (go_at_call 17; (with_reducible refine (GZ.out _ _ _ HP3.out HP4.out).mono ?_); rintro e w6 ⟨rfl, hb6⟩; replace HB := Lib.hid (HB.out.trans (hb6.mono HB.out.size)); clear hb6 HP3 HP4)
      | (go_at_call 7; (with_reducible refine (HAL.out _).mono ?_); rintro e w8 ⟨rfl, hb8⟩; replace HB := Lib.hid (HB.out.trans (hb8.mono HB.out.size)); clear hb8))
    go_ret
    exact ⟨rfl, HB.out⟩
end Go.Proofs.Ytmmaodcihpgdfaa
