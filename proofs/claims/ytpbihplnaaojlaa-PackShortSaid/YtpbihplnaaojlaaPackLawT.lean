/- The laws of layer 8 that hold the program against the document: PackPuts, PackShort, PackZigs. -/
import Derived.Test.YtpbihplnaaojlaaPackAlive
namespace Go.Proofs.Ytpbihplnaaojlaa
open Go.RowKit

theorem kk8 (k : Int) (x : Nat) : (bn (bigs (kk k) x)).length ≤ 8 := by rw [bn_len, bigs_length]; exact kk_le k

set_option maxHeartbeats 2000000 in
set_option maxRecDepth 100000 in
theorem packPuts_any (va : Value) (l : List UInt8) (X k : Int) (w : World) (ha : BytesAt w va l) (hl : l.length ≤ 9223372036854775807) (hX : 0 ≤ X ∧ X < 18446744073709551616) :
    Calls Try.prog 3 #[va, .int .u64 X, .int .i64 k] w fun e w' => e = .returned (.bool true) ∧ Below w.heap.size w w' := by
  have HAL := Lib.hid fun w => kAlive_any w
  have HA := Lib.hid ha
  obtain ⟨a, c, rfl⟩ := RowsAt.form ha
  clear ha
  by_cases h300 : 300 < l.length
  · go_enter Try.func3, Try.ntmps3
    go_wp2_with (go_at_call 7; (with_reducible refine (HAL.out _).mono ?_); rintro e w1 ⟨rfl, hb⟩)
    go_ret
    exact ⟨rfl, hb⟩
  · obtain ⟨x, rfl⟩ : ∃ x : Nat, X = x := ⟨X.toNat, by omega⟩
    have g1 := fun w ha => kTake_any (.slice a l.length c) l k w ha (by omega)
    have g2 := fun w ha => refTake_any (.slice a l.length c) l k w ha (by omega)
    have g3 := fun w ha => kPut_any (.slice a l.length c) l x k w ha (by omega) (by omega)
    have g4 := fun w ha => refPut_any (.slice a l.length c) l x k w ha (by omega) (by omega)
    obtain ⟨⟨z, r, t⟩, hz⟩ : ∃ t, takeB l k = t := ⟨_, rfl⟩
    rw [hz] at g1 g2
    simp only at g1 g2
    generalize l ++ bn (bigs (kk k) x) = L at *
    have gs := fun w va vb ha hb => refBSame_any va vb L L w ha hb
    have gr := fun w va vb ha hb => refBSame_any va vb r r w ha hb
    rw [decide_eq_true rfl] at gs gr
    have G1 := Lib.hid g1
    have G2 := Lib.hid g2
    have G3 := Lib.hid g3
    have G4 := Lib.hid g4
    have GS := Lib.hid gs
    have GR := Lib.hid gr
    clear g1 g2 g3 g4 gs gr hz
    go_enter Try.func3, Try.ntmps3
    go_wp2_with (first
      | (go_at_call 8; (with_reducible refine (G1.out _ HA.out).mono ?_); rintro e w1 ⟨v1, rfl, hp1, hb1⟩; have HP1 := Lib.hid hp1; have HB := Lib.hid hb1; clear hp1 hb1)
      | (go_at_call 9; (with_reducible refine (G2.out _ (HA.out.kept HB.out)).mono ?_); rintro e w2 ⟨v2, rfl, hp2, hb2⟩; replace HP1 := Lib.hid (HP1.out.kept hb2); have HP2 := Lib.hid hp2; replace HB := Lib.hid (HB.out.trans (hb2.mono HB.out.size)); clear hp2 hb2)
      | (go_at_call 11; (with_reducible refine (G3.out _ (HA.out.kept HB.out)).mono ?_); rintro e w3 ⟨v3, rfl, hp3, hb3⟩; replace HP1 := Lib.hid (HP1.out.kept hb3); replace HP2 := Lib.hid (HP2.out.kept hb3); have HP3 := Lib.hid hp3; replace HB := Lib.hid (HB.out.trans (hb3.mono HB.out.size)); clear hp3 hb3)
      | (go_at_call 12; (with_reducible refine (G4.out _ (HA.out.kept HB.out)).mono ?_); rintro e w4 ⟨v4, rfl, hp4, hb4⟩; replace HP1 := Lib.hid (HP1.out.kept hb4); replace HP2 := Lib.hid (HP2.out.kept hb4); replace HP3 := Lib.hid (HP3.out.kept hb4); have HP4 := Lib.hid hp4; replace HB := Lib.hid (HB.out.trans (hb4.mono HB.out.size)); clear hp4 hb4)
      | (go_at_call 10; (with_reducible refine (GS.out _ _ _ HP3.out HP4.out).mono ?_); rintro e w5 ⟨rfl, rfl⟩; clear HP3 HP4)
      | (go_at_call 10; (with_reducible refine (GR.out _ _ _ HP1.out HP2.out).mono ?_); rintro e w6 ⟨rfl, rfl⟩)
      | (go_at_call 7; (with_reducible refine (HAL.out _).mono ?_); rintro e w7 ⟨rfl, hb7⟩; replace HB := Lib.hid (HB.out.trans (hb7.mono HB.out.size)); clear hb7))
    go_ret
    exact ⟨rfl, HB.out⟩

set_option maxHeartbeats 2000000 in
set_option maxRecDepth 100000 in
theorem packShort_any (va : Value) (l : List UInt8) (X : Int) (w : World) (ha : BytesAt w va l) (hl : l.length ≤ 9223372036854775807) (hX : 0 ≤ X ∧ X < 18446744073709551616) :
    Calls Try.prog 4 #[va, .int .u64 X] w fun e w' => e = .returned (.bool true) ∧ Below w.heap.size w w' := by
  have HAL := Lib.hid fun w => kAlive_any w
  have HA := Lib.hid ha
  obtain ⟨a, c, rfl⟩ := RowsAt.form ha
  clear ha
  by_cases h300 : 300 < l.length
  · go_enter Try.func4, Try.ntmps4
    go_wp2_with (go_at_call 7; (with_reducible refine (HAL.out _).mono ?_); rintro e w1 ⟨rfl, hb⟩)
    go_ret
    exact ⟨rfl, hb⟩
  · obtain ⟨x, rfl⟩ : ∃ x : Nat, X = x := ⟨X.toNat, by omega⟩
    have g1 := fun w ha => kUnvar_any (.slice a l.length c) l w ha (by omega)
    have g2 := fun w ha => refUnvar_any (.slice a l.length c) l w ha (by omega)
    have g3 := fun w ha => kVar_any (.slice a l.length c) l x w ha (by omega) (by omega)
    have g4 := fun w ha => refVar_any (.slice a l.length c) l x w ha (by omega) (by omega)
    obtain ⟨⟨z, r, t⟩, hz⟩ : ∃ t, unvB l = t := ⟨_, rfl⟩
    rw [hz] at g1 g2
    simp only at g1 g2
    generalize l ++ bn (varL x) = L at *
    have gs := fun w va vb ha hb => refBSame_any va vb L L w ha hb
    have gr := fun w va vb ha hb => refBSame_any va vb r r w ha hb
    rw [decide_eq_true rfl] at gs gr
    have G1 := Lib.hid g1
    have G2 := Lib.hid g2
    have G3 := Lib.hid g3
    have G4 := Lib.hid g4
    have GS := Lib.hid gs
    have GR := Lib.hid gr
    clear g1 g2 g3 g4 gs gr hz
    go_enter Try.func4, Try.ntmps4
    go_wp2_with (first
      | (go_at_call 13; (with_reducible refine (G1.out _ HA.out).mono ?_); rintro e w1 ⟨v1, rfl, hp1, hb1⟩; have HP1 := Lib.hid hp1; have HB := Lib.hid hb1; clear hp1 hb1)
      | (go_at_call 14; (with_reducible refine (G2.out _ (HA.out.kept HB.out)).mono ?_); rintro e w2 ⟨v2, rfl, hp2, hb2⟩; replace HP1 := Lib.hid (HP1.out.kept hb2); have HP2 := Lib.hid hp2; replace HB := Lib.hid (HB.out.trans (hb2.mono HB.out.size)); clear hp2 hb2)
      | (go_at_call 15; (with_reducible refine (G3.out _ (HA.out.kept HB.out)).mono ?_); rintro e w3 ⟨v3, rfl, hp3, hb3⟩; replace HP1 := Lib.hid (HP1.out.kept hb3); replace HP2 := Lib.hid (HP2.out.kept hb3); have HP3 := Lib.hid hp3; replace HB := Lib.hid (HB.out.trans (hb3.mono HB.out.size)); clear hp3 hb3)
      | (go_at_call 16; (with_reducible refine (G4.out _ (HA.out.kept HB.out)).mono ?_); rintro e w4 ⟨v4, rfl, hp4, hb4⟩; replace HP1 := Lib.hid (HP1.out.kept hb4); replace HP2 := Lib.hid (HP2.out.kept hb4); replace HP3 := Lib.hid (HP3.out.kept hb4); have HP4 := Lib.hid hp4; replace HB := Lib.hid (HB.out.trans (hb4.mono HB.out.size)); clear hp4 hb4)
      | (go_at_call 10; (with_reducible refine (GS.out _ _ _ HP3.out HP4.out).mono ?_); rintro e w5 ⟨rfl, rfl⟩; clear HP3 HP4)
      | (go_at_call 10; (with_reducible refine (GR.out _ _ _ HP1.out HP2.out).mono ?_); rintro e w6 ⟨rfl, rfl⟩)
      | (go_at_call 7; (with_reducible refine (HAL.out _).mono ?_); rintro e w7 ⟨rfl, hb7⟩; replace HB := Lib.hid (HB.out.trans (hb7.mono HB.out.size)); clear hb7))
    go_ret
    exact ⟨rfl, HB.out⟩

set_option maxHeartbeats 2000000 in
set_option maxRecDepth 100000 in
theorem packZigs_any (n X : Int) (w : World) (hn : -9223372036854775808 ≤ n ∧ n ≤ 9223372036854775807) (hX : 0 ≤ X ∧ X < 18446744073709551616) :
    Calls Try.prog 5 #[.int .i64 n, .int .u64 X] w fun e w' => e = .returned (.bool true) ∧ Below w.heap.size w w' := by
  have HAL := Lib.hid fun w => kAlive_any w
  have h1 : 0 ≤ zig n ∧ zig n < 18446744073709551616 := by unfold zig; split <;> omega
  have h2 : -9223372036854775808 ≤ unzig X ∧ unzig X ≤ 9223372036854775807 := by unfold unzig; split <;> omega
  have g1 := fun w => kZig_any n w hn
  have g2 := fun w => refZig_any n w hn
  have g3 := fun w => kUnzig_any X w hX
  have g4 := fun w => refUnzig_any X w hX
  have g5 := fun w => kUnzig_any (zig n) w h1
  have g6 := fun w => kZig_any (unzig X) w h2
  rw [unzig_zig] at g5
  rw [zig_unzig hX.1] at g6
  generalize zig n = y at *
  generalize unzig X = z at *
  have G1 := Lib.hid g1
  have G2 := Lib.hid g2
  have G3 := Lib.hid g3
  have G4 := Lib.hid g4
  have G5 := Lib.hid g5
  have G6 := Lib.hid g6
  clear g1 g2 g3 g4 g5 g6 h1 h2 hn hX
  go_enter Try.func5, Try.ntmps5
  go_wp2_with (first
    | (go_at_call 17; (with_reducible refine (G1.out _).mono ?_); rintro e w1 ⟨rfl, rfl⟩)
    | (go_at_call 17; (with_reducible refine (G6.out _).mono ?_); rintro e w1 ⟨rfl, rfl⟩)
    | (go_at_call 18; (with_reducible refine (G2.out _).mono ?_); rintro e w1 ⟨rfl, rfl⟩)
    | (go_at_call 19; (with_reducible refine (G3.out _).mono ?_); rintro e w1 ⟨rfl, rfl⟩)
    | (go_at_call 19; (with_reducible refine (G5.out _).mono ?_); rintro e w1 ⟨rfl, rfl⟩)
    | (go_at_call 20; (with_reducible refine (G4.out _).mono ?_); rintro e w1 ⟨rfl, rfl⟩)
    | (go_at_call 7; (with_reducible refine (HAL.out _).mono ?_); rintro e w7 ⟨rfl, hb7⟩))
  go_ret
  exact ⟨rfl, hb7⟩
end Go.Proofs.Ytpbihplnaaojlaa
