/- The law CrcTells. -/
import Derived.Test.YtapdndldfgnhdaaCrcLawT
namespace Go.Proofs.Ytapdndldfgnhdaa
open Go.RowKit

theorem nb9_flips (at_ : Int) (b : Nat) (l : List UInt8) : nb9 (flips at_ b l) = flx (flq at_ b) (nb9 l) := nb9_bn9 (flx_byte _ _ (nb9_byte l))
theorem flips_twice (at_ : Int) (b : Nat) (l : List UInt8) : flips at_ b (flips at_ b l) = l := by
  show bn9 (flx (flq at_ b) (nb9 (flips at_ b l))) = l
  rw [nb9_flips, flx_twice, bn9_nb9]
theorem flips_same (at_ : Int) (b : Nat) (l : List UInt8) : flips at_ b l = l ↔ flx (flq at_ b) (nb9 l) = nb9 l := by
  constructor
  · intro h
    rw [← nb9_flips, h]
  · intro h
    show bn9 (flx (flq at_ b) (nb9 l)) = l
    rw [h, bn9_nb9]
theorem flips_tell (n b : Nat) (l : List UInt8) (h : n < 8 * l.length) (hb : b < 4294967296) : sm (nb9 (flips n b l)) = sm (nb9 l) ↔ flips n b l = l := by
  rw [flips_same, nb9_flips]
  have hq : flq (n : Int) b = b * 2 ^ n := by unfold flq; rw [if_pos (by omega)]; rfl
  rw [hq]
  exact tells (nb9 l) n b (by rw [nb9_len]; exact h) hb (nb9_byte l)

set_option maxHeartbeats 2000000 in
set_option maxRecDepth 100000 in
theorem crcTells_any (va : Value) (l : List UInt8) (A S : Int) (w : World) (ha : BytesAt w va l) (hl : l.length ≤ 9223372036854775807) (hA : 0 ≤ A ∧ A < 65536) (hS : 0 ≤ S ∧ S < 4294967296) :
    Calls Try.prog 6 #[va, .int .u16 A, .int .u32 S] w fun e w' => e = .returned (.bool true) ∧ Below w.heap.size w w' := by
  have HAL := Lib.hid fun w => cAlive9_any w
  have HA := Lib.hid ha
  obtain ⟨a, c, rfl⟩ := RowsAt.form ha
  clear ha
  by_cases h0 : l.length = 0
  · have k0 : ((l.length : Int) == 0) = true := by rw [h0]; rfl
    go_enter Try.func6, Try.ntmps6
    go_wp2_with (go_at_call 7; (with_reducible refine (HAL.out _).mono ?_); rintro e w1 ⟨rfl, hb⟩)
    go_ret
    exact ⟨rfl, hb⟩
  have k0 : ((l.length : Int) == 0) = false := beq_no9 (by omega)
  by_cases h300 : 300 < l.length
  · go_enter Try.func6, Try.ntmps6
    go_wp2_with (go_at_call 7; (with_reducible refine (HAL.out _).mono ?_); rintro e w1 ⟨rfl, hb⟩)
    go_ret
    exact ⟨rfl, hb⟩
  obtain ⟨s, rfl⟩ : ∃ x : Nat, S = x := ⟨S.toNat, by omega⟩
  obtain ⟨n, hn⟩ : ∃ n : Nat, A % (8 * (l.length : Int)) = n := ⟨(A % (8 * (l.length : Int))).toNat, by have := Int.emod_nonneg A (show 8 * (l.length : Int) ≠ 0 by omega); omega⟩
  have hnl : n < 8 * l.length := by have := Int.emod_lt_of_pos A (show 0 < 8 * (l.length : Int) by omega); omega
  have htell := flips_tell n s l hnl (by omega)
  have htw := flips_twice n s l
  have hX := flips_len n s l
  have g1 : ∀ w, BytesAt w (.slice a l.length c) l → Calls Try.prog 13 #[.slice a l.length c, .int .i64 (n : Int), .int .u32 (s : Int)] w fun e w' => ∃ a1 c1, e = .returned (.slice a1 l.length c1) ∧ BytesAt w' (.slice a1 l.length c1) (flips n s l) ∧ Below w.heap.size w w' := fun w ha => by
    refine (cFlip9_any (.slice a l.length c) l n s w ha (by omega) (by omega) (by omega)).mono ?_
    rintro e w' ⟨v, rfl, hp, hb⟩
    obtain ⟨a1, c1, rfl⟩ := RowsAt.form hp
    rw [hX] at hp ⊢
    exact ⟨a1, c1, rfl, hp, hb⟩
  generalize hg : flips n s l = X at *
  have g2 : ∀ w va, BytesAt w va X → Calls Try.prog 13 #[va, .int .i64 (n : Int), .int .u32 (s : Int)] w fun e w' => ∃ v, e = .returned v ∧ BytesAt w' v l ∧ Below w.heap.size w w' := fun w va ha => by
    have := cFlip9_any va X n s w ha (by omega) (by omega) (by omega)
    rw [htw] at this
    exact this
  have g3 := fun w ha => cSum9_any (.slice a l.length c) l w ha (by omega)
  have g4 := fun w va ha => cSum9_any va X w ha (by omega)
  have gs := fun w va vb ha hb => refBSame_any va vb l l w ha hb
  rw [decide_eq_true rfl] at gs
  generalize sm (nb9 l) = x at *
  generalize sm (nb9 X) = y at *
  have G1 := Lib.hid g1
  have G2 := Lib.hid g2
  have G3 := Lib.hid g3
  have G4 := Lib.hid g4
  have GS := Lib.hid gs
  have hc : ((X == l) = true ∧ y = x) ∨ ((X == l) = false ∧ ((y : Int) == (x : Int)) = false) := by
    by_cases e : X = l
    · exact .inl ⟨by rw [e]; exact beq_self_eq_true l, htell.2 e⟩
    · exact .inr ⟨by simpa using e, beq_no9 (fun h => e (htell.1 (by omega)))⟩
  clear g1 g2 g3 g4 gs hg htell htw hX hnl hS
  go_enter Try.func6, Try.ntmps6
  go_wp2_with (first
    | (go_at_call 13; (with_reducible refine (G1.out _ HA.out).mono ?_); rintro e w1 ⟨a1, c1, rfl, hp1, hb1⟩; have HP1 := Lib.hid hp1; have HB := Lib.hid hb1; clear hp1 hb1)
    | (go_at_call 13; (with_reducible refine (G2.out _ _ HP1.out).mono ?_); rintro e w2 ⟨v2, rfl, hp2, hb2⟩; replace HP1 := Lib.hid (HP1.out.kept hb2); have HP2 := Lib.hid hp2; replace HB := Lib.hid (HB.out.trans (hb2.mono HB.out.size)); clear hp2 hb2)
    | (go_at_call 12; (with_reducible refine (GS.out _ _ _ HP2.out (HA.out.kept HB.out)).mono ?_); rintro e w5 ⟨rfl, rfl⟩; clear HP2))
  refine wp_region_calm0 (by kernel_rfl) (by kernel_rfl) fun M => ?_
  have HX := Lib.hid fun n : In M.w => (HP1.out.kept M.h).kept n.h
  have HL := Lib.hid fun n : In M.w => ((HA.out.kept HB.out).kept M.h).kept n.h
  have q1 := fun n : In M.w => str_of_bytes (HX.out n)
  have q2 := fun n : In M.w => str_of_bytes (HL.out n)
  rcases hc with ⟨c1, rfl⟩ | ⟨c1, c2⟩
  all_goals
    repeat (go_big_quiet_step (first
      | (go_at_call 8; with_reducible exact In.call (G3.out _ (HL.out _)))
      | (go_at_call 8; with_reducible exact In.call (G4.out _ _ (HX.out _)))
      | (go_at_call 7; with_reducible exact In.call (HAL.out _))))
    refine wpQuiet_nil ?_
    intro w6 hb
    replace HB := Lib.hid (HB.out.trans (hb.mono HB.out.size))
    clear HX HL q1 q2 M hb
    go_wp2
    go_ret
    exact ⟨rfl, HB.out⟩
end Go.Proofs.Ytapdndldfgnhdaa
