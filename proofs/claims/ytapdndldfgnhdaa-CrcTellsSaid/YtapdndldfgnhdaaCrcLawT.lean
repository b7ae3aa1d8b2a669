/- The laws of layer 9 that hold the program against the document: CrcSums, CrcFlips. -/
import Derived.Test.YtapdndldfgnhdaaCrcAlive
namespace Go.Proofs.Ytapdndldfgnhdaa
open Go.RowKit

theorem flips_len (at_ : Int) (b : Nat) (l : List UInt8) : (flips at_ b l).length = l.length := by
  unfold flips bn9
  rw [List.length_map, flx_length, nb9_len]

set_option maxHeartbeats 2000000 in
set_option maxRecDepth 100000 in
theorem crcSums_any (va : Value) (l : List UInt8) (S : Int) (w : World) (ha : BytesAt w va l) (hS : 0 ≤ S ∧ S < 4294967296) :
    Calls Try.prog 3 #[va, .int .u32 S] w fun e w' => e = .returned (.bool true) ∧ Below w.heap.size w w' := by
  have HAL := Lib.hid fun w => cAlive9_any w
  have HA := Lib.hid ha
  obtain ⟨a, c, rfl⟩ := RowsAt.form ha
  clear ha
  by_cases h300 : 300 < l.length
  · go_enter Try.func3, Try.ntmps3
    go_wp2_with (go_at_call 7; (with_reducible refine (HAL.out _).mono ?_); rintro e w1 ⟨rfl, hb⟩)
    go_ret
    exact ⟨rfl, hb⟩
  · obtain ⟨s, rfl⟩ : ∃ x : Nat, S = x := ⟨S.toNat, by omega⟩
    have g1 := fun w ha => cSum9_any (.slice a l.length c) l w ha (by omega)
    have g2 := fun w ha => refSum9_any (.slice a l.length c) l w ha (by omega)
    have g3 := fun w ha => cMore9_any s (.slice a l.length c) l w ha (by omega) (by omega)
    have g4 := fun w ha => refMore9_any s (.slice a l.length c) l w ha (by omega) (by omega)
    generalize sm (nb9 l) = x at *
    generalize mor s (nb9 l) = y at *
    have G1 := Lib.hid g1
    have G2 := Lib.hid g2
    have G3 := Lib.hid g3
    have G4 := Lib.hid g4
    clear g1 g2 g3 g4 hS
    go_enter Try.func3, Try.ntmps3
    go_wp2_with (first
      | (go_at_call 8; (with_reducible refine (G1.out _ HA.out).mono ?_); rintro e w1 ⟨rfl, hb1⟩; have HB := Lib.hid hb1; clear hb1)
      | (go_at_call 9; (with_reducible refine (G2.out _ (HA.out.kept HB.out)).mono ?_); rintro e w2 ⟨rfl, rfl⟩)
      | (go_at_call 10; (with_reducible refine (G3.out _ (HA.out.kept HB.out)).mono ?_); rintro e w3 ⟨rfl, hb3⟩; replace HB := Lib.hid (HB.out.trans (hb3.mono HB.out.size)); clear hb3)
      | (go_at_call 11; (with_reducible refine (G4.out _ (HA.out.kept HB.out)).mono ?_); rintro e w4 ⟨rfl, rfl⟩)
      | (go_at_call 7; (with_reducible refine (HAL.out _).mono ?_); rintro e w7 ⟨rfl, hb7⟩; replace HB := Lib.hid (HB.out.trans (hb7.mono HB.out.size)); clear hb7))
    go_ret
    exact ⟨rfl, HB.out⟩

set_option maxHeartbeats 2000000 in
set_option maxRecDepth 100000 in
theorem crcFlips_any (va : Value) (l : List UInt8) (at_ S : Int) (w : World) (ha : BytesAt w va l) (hat : -9223372036854775808 ≤ at_ ∧ at_ ≤ 9223372036854775807) (hS : 0 ≤ S ∧ S < 4294967296) :
    Calls Try.prog 4 #[va, .int .i64 at_, .int .u32 S] w fun e w' => e = .returned (.bool true) ∧ Below w.heap.size w w' := by
  have HAL := Lib.hid fun w => cAlive9_any w
  have HA := Lib.hid ha
  obtain ⟨a, c, rfl⟩ := RowsAt.form ha
  clear ha
  by_cases h60 : 60 < l.length
  · go_enter Try.func4, Try.ntmps4
    go_wp2_with (go_at_call 7; (with_reducible refine (HAL.out _).mono ?_); rintro e w1 ⟨rfl, hb⟩)
    go_ret
    exact ⟨rfl, hb⟩
  · obtain ⟨s, rfl⟩ : ∃ x : Nat, S = x := ⟨S.toNat, by omega⟩
    have g1 := fun w ha => cFlip9_any (.slice a l.length c) l at_ s w ha (by omega) (by omega) hat
    have g2 := fun w ha => refFlip9_any (.slice a l.length c) l at_ s w ha (by omega) (by omega) hat
    generalize flips at_ s l = L at *
    have gs := fun w va vb ha hb => refBSame_any va vb L L w ha hb
    rw [decide_eq_true rfl] at gs
    have G1 := Lib.hid g1
    have G2 := Lib.hid g2
    have GS := Lib.hid gs
    clear g1 g2 gs hS hat
    go_enter Try.func4, Try.ntmps4
    go_wp2_with (first
      | (go_at_call 13; (with_reducible refine (G1.out _ HA.out).mono ?_); rintro e w1 ⟨v1, rfl, hp1, hb1⟩; have HP1 := Lib.hid hp1; have HB := Lib.hid hb1; clear hp1 hb1)
      | (go_at_call 14; (with_reducible refine (G2.out _ (HA.out.kept HB.out)).mono ?_); rintro e w2 ⟨v2, rfl, hp2, hb2⟩; replace HP1 := Lib.hid (HP1.out.kept hb2); have HP2 := Lib.hid hp2; replace HB := Lib.hid (HB.out.trans (hb2.mono HB.out.size)); clear hp2 hb2)
      | (go_at_call 12; (with_reducible refine (GS.out _ _ _ HP1.out HP2.out).mono ?_); rintro e w5 ⟨rfl, rfl⟩; clear HP1 HP2)
      | (go_at_call 7; (with_reducible refine (HAL.out _).mono ?_); rintro e w7 ⟨rfl, hb7⟩; replace HB := Lib.hid (HB.out.trans (hb7.mono HB.out.size)); clear hb7))
    go_ret
    exact ⟨rfl, HB.out⟩
end Go.Proofs.Ytapdndldfgnhdaa
