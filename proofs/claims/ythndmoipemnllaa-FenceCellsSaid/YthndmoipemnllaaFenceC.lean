/- The walks of package fence: what is told of each edge. -/
import Derived.Test.YthndmoipemnllaaFenceB
namespace Go.Proofs.Ythndmoipemnllaa
open Go.RowKit
attribute [local go_sem] store_complex

/-- which way an edge leads -/
def wy (l : List (Int × Int)) (k : Nat) : Int × Int := ((nxt l k).1 - (pat l k).1, (nxt l k).2 - (pat l k).2)

set_option maxHeartbeats 2000000 in
set_option maxRecDepth 100000 in
theorem feach_area (va : Value) (l : List (Int × Int)) (c1 : Value) (J : Nat → World → Prop) (hl : l.length ≤ 256) (hsm : ∀ i, i < l.length → smallP (pat l i) 1048576 = true)
    (hform : ∃ a c, va = .slice a l.length c)
    (hJl : ∀ k w1, J k w1 → PairsAt w1 va l)
    (hJk : ∀ k w1 w2, J k w1 → Below w1.heap.size w1 w2 → J k w2)
    (hT : ∀ k p q w1, k < l.length → Fl p (wy l k).1 → Fl q (wy l k).2 → J k w1 → Calls Try.prog 33 #[.complex .f64 (fl (pat l k).1) (fl (pat l k).2), .complex .f64 p q, c1] w1 fun e w' => e = .returned (.tuple #[]) ∧ J (k + 1) w')
    (w : World) (h0 : J 0 w) :
    Calls Try.prog 25 #[va, .func (.func 33) #[] #[c1]] w fun e w' => e = .returned (.tuple #[]) ∧ J l.length w' := by
  obtain ⟨a, c, rfl⟩ := hform
  have HJL := Lib.hid hJl
  have HJK := Lib.hid hJk
  have HT := Lib.hid hT
  have HS := Lib.hid hsm
  clear hJl hJk hT hsm
  go_enter Try.func25, Try.ntmps25
  go_wp2
  go_loopw [4, 5, 6, 9] (fun _ _ _ i wr => ∃ k : Nat, k ≤ l.length ∧ i = .int .i64 k ∧ J k wr) (fun _ _ _ i _ => l.length - (intOf i).toNat)
  case atStart => exact ⟨0, Nat.zero_le _, rfl, h0⟩
  case round =>
    clear h0
    obtain ⟨k, hk, rfl, hJ⟩ := hrel
    by_cases hlt : k < l.length
    · obtain ⟨g, o, c', ev, hc, hg, p1, p2⟩ := (HJL.out _ _ hJ).spot k hlt
      cases ev
      have hj : (k + 1) % l.length < l.length := Nat.mod_lt _ (by omega)
      obtain ⟨g', o', c', ev, hc', hg', q1, q2⟩ := (HJL.out _ _ hJ).spot _ hj
      cases ev
      have hm : Int.tmod ((k : Int) + 1) (l.length : Int) = (((k + 1) % l.length : Nat) : Int) := by
        rw [Int.tmod_eq_emod_of_nonneg (by omega)]
        rfl
      have hn : pat l ((k + 1) % l.length) = nxt l k := rfl
      have hb1 := smallP_bd (HS.out k hlt)
      have hb2 := smallP_bd (HS.out _ hj)
      have hw : wy l k = ((nxt l k).1 - (pat l k).1, (nxt l k).2 - (pat l k).2) := rfl
      rw [hn] at q1 q2 hb2
      have HT1 := Lib.hid fun p q w1 => HT.out k p q w1 hlt
      rw [hw] at HT1
      generalize (k + 1) % l.length = j at *
      generalize nxt l k = Q at *
      generalize pat l k = R at *
      obtain ⟨x2, y2⟩ := Q
      obtain ⟨x1, y1⟩ := R
      simp only at p1 p2 q1 q2 hb1 hb2 HT1
      have hHJ := Lib.hid hJ
      obtain ⟨hrun, hre, him⟩ := cDif_whole 41 (a := fl x2) (b := fl y2) (c := fl x1) (d := fl y1) (fl_small (by omega)) (fl_small (by omega)) (fl_small (by omega)) (fl_small (by omega)) (by omega) (by omega)
      have HT2 := Lib.hid (fun w1 => HT1.out _ _ w1 hre him)
      have hn0 : ((l.length : Int) == 0) = false := beq_no' (by omega)
      have hn1 : (l.length : Int) ≠ 0 := by omega
      have i0 : (0 : Int) ≤ (k : Int) := by omega
      have i1 : (k : Int) < (l.length : Int) := by omega
      have j0 : (0 : Int) ≤ (j : Int) := by omega
      have j1 : (j : Int) < (l.length : Int) := by omega
      have hB := (Below.refl wr.heap.size wr).alloc (Nat.le_refl _) (.cells #[.int .i64 x1, .int .i64 y1] 23)
      have s1 := World.block_lt_of_cell? _ _ q1
      have s2 := World.block_lt_of_cell? _ _ q2
      have q1' := (hB.cell s1).trans q1
      have q2' := (hB.cell s2).trans q2
      clear hre him hb1 hb2 hw hn HT HS HT1 hJ hg hg'
      go_wp2_with (first
        | (go_at_call 24; (with_reducible refine (fnumber_any x1 y1 _).mono ?_); rintro e w1 ⟨rfl, hb⟩; have hB1 := hB.trans (hb.mono hB.size); have q1'' := (hB1.cell s1).trans q1; have q2'' := (hB1.cell s2).trans q2; clear hb q1' q2')
        | (go_at_call 24; (with_reducible refine (fnumber_any x2 y2 _).mono ?_); rintro e w2 ⟨rfl, hb⟩; have hB2 := hB1.trans (hb.mono hB1.size); clear hb q1'' q2'')
        | (go_at_call 33; (with_reducible refine (HT2.out _ (HJK.out _ _ _ hHJ.out hB2)).mono ?_); rintro e w3 ⟨rfl, hj3⟩; have HJ3 := Lib.hid hj3; clear hj3))
      go_roundw
      case rel => exact ⟨k + 1, by omega, by go_num, HJ3.out⟩
      case measure => simp [intOf]; omega
    · have hk2 : k = l.length := by omega
      rw [hk2] at hJ
      have HJ := Lib.hid hJ
      clear hk hk2 hJ
      go_wp2
      go_end0
      exact ⟨rfl, HJ.out⟩

set_option maxHeartbeats 2000000 in
set_option maxRecDepth 100000 in
theorem feach_right (va : Value) (l : List (Int × Int)) (c1 c2 : Value) (J : Nat → World → Prop) (hl : l.length ≤ 256) (hsm : ∀ i, i < l.length → smallP (pat l i) 1048576 = true)
    (hform : ∃ a c, va = .slice a l.length c)
    (hJl : ∀ k w1, J k w1 → PairsAt w1 va l)
    (hJk : ∀ k w1 w2, J k w1 → Below w1.heap.size w1 w2 → J k w2)
    (hT : ∀ k p q w1, k < l.length → Fl p (wy l k).1 → Fl q (wy l k).2 → J k w1 → Calls Try.prog 26 #[.complex .f64 (fl (pat l k).1) (fl (pat l k).2), .complex .f64 p q, c1, c2] w1 fun e w' => e = .returned (.tuple #[]) ∧ J (k + 1) w')
    (w : World) (h0 : J 0 w) :
    Calls Try.prog 25 #[va, .func (.func 26) #[] #[c1, c2]] w fun e w' => e = .returned (.tuple #[]) ∧ J l.length w' := by
  obtain ⟨a, c, rfl⟩ := hform
  have HJL := Lib.hid hJl
  have HJK := Lib.hid hJk
  have HT := Lib.hid hT
  have HS := Lib.hid hsm
  clear hJl hJk hT hsm
  go_enter Try.func25, Try.ntmps25
  go_wp2
  go_loopw [4, 5, 6, 9] (fun _ _ _ i wr => ∃ k : Nat, k ≤ l.length ∧ i = .int .i64 k ∧ J k wr) (fun _ _ _ i _ => l.length - (intOf i).toNat)
  case atStart => exact ⟨0, Nat.zero_le _, rfl, h0⟩
  case round =>
    clear h0
    obtain ⟨k, hk, rfl, hJ⟩ := hrel
    by_cases hlt : k < l.length
    · obtain ⟨g, o, c', ev, hc, hg, p1, p2⟩ := (HJL.out _ _ hJ).spot k hlt
      cases ev
      have hj : (k + 1) % l.length < l.length := Nat.mod_lt _ (by omega)
      obtain ⟨g', o', c', ev, hc', hg', q1, q2⟩ := (HJL.out _ _ hJ).spot _ hj
      cases ev
      have hm : Int.tmod ((k : Int) + 1) (l.length : Int) = (((k + 1) % l.length : Nat) : Int) := by
        rw [Int.tmod_eq_emod_of_nonneg (by omega)]
        rfl
      have hn : pat l ((k + 1) % l.length) = nxt l k := rfl
      have hb1 := smallP_bd (HS.out k hlt)
      have hb2 := smallP_bd (HS.out _ hj)
      have hw : wy l k = ((nxt l k).1 - (pat l k).1, (nxt l k).2 - (pat l k).2) := rfl
      rw [hn] at q1 q2 hb2
      have HT1 := Lib.hid fun p q w1 => HT.out k p q w1 hlt
      rw [hw] at HT1
      generalize (k + 1) % l.length = j at *
      generalize nxt l k = Q at *
      generalize pat l k = R at *
      obtain ⟨x2, y2⟩ := Q
      obtain ⟨x1, y1⟩ := R
      simp only at p1 p2 q1 q2 hb1 hb2 HT1
      have hHJ := Lib.hid hJ
      obtain ⟨hrun, hre, him⟩ := cDif_whole 41 (a := fl x2) (b := fl y2) (c := fl x1) (d := fl y1) (fl_small (by omega)) (fl_small (by omega)) (fl_small (by omega)) (fl_small (by omega)) (by omega) (by omega)
      have HT2 := Lib.hid (fun w1 => HT1.out _ _ w1 hre him)
      have hn0 : ((l.length : Int) == 0) = false := beq_no' (by omega)
      have hn1 : (l.length : Int) ≠ 0 := by omega
      have i0 : (0 : Int) ≤ (k : Int) := by omega
      have i1 : (k : Int) < (l.length : Int) := by omega
      have j0 : (0 : Int) ≤ (j : Int) := by omega
      have j1 : (j : Int) < (l.length : Int) := by omega
      have hB := (Below.refl wr.heap.size wr).alloc (Nat.le_refl _) (.cells #[.int .i64 x1, .int .i64 y1] 23)
      have s1 := World.block_lt_of_cell? _ _ q1
      have s2 := World.block_lt_of_cell? _ _ q2
      have q1' := (hB.cell s1).trans q1
      have q2' := (hB.cell s2).trans q2
      clear hre him hb1 hb2 hw hn HT HS HT1 hJ hg hg'
      go_wp2_with (first
        | (go_at_call 24; (with_reducible refine (fnumber_any x1 y1 _).mono ?_); rintro e w1 ⟨rfl, hb⟩; have hB1 := hB.trans (hb.mono hB.size); have q1'' := (hB1.cell s1).trans q1; have q2'' := (hB1.cell s2).trans q2; clear hb q1' q2')
        | (go_at_call 24; (with_reducible refine (fnumber_any x2 y2 _).mono ?_); rintro e w2 ⟨rfl, hb⟩; have hB2 := hB1.trans (hb.mono hB1.size); clear hb q1'' q2'')
        | (go_at_call 26; (with_reducible refine (HT2.out _ (HJK.out _ _ _ hHJ.out hB2)).mono ?_); rintro e w3 ⟨rfl, hj3⟩; have HJ3 := Lib.hid hj3; clear hj3))
      go_roundw
      case rel => exact ⟨k + 1, by omega, by go_num, HJ3.out⟩
      case measure => simp [intOf]; omega
    · have hk2 : k = l.length := by omega
      rw [hk2] at hJ
      have HJ := Lib.hid hJ
      clear hk hk2 hJ
      go_wp2
      go_end0
      exact ⟨rfl, HJ.out⟩

set_option maxHeartbeats 2000000 in
set_option maxRecDepth 100000 in
theorem feach_cell (va : Value) (l : List (Int × Int)) (c1 c2 : Value) (J : Nat → World → Prop) (hl : l.length ≤ 256) (hsm : ∀ i, i < l.length → smallP (pat l i) 1048576 = true)
    (hform : ∃ a c, va = .slice a l.length c)
    (hJl : ∀ k w1, J k w1 → PairsAt w1 va l)
    (hJk : ∀ k w1 w2, J k w1 → Below w1.heap.size w1 w2 → J k w2)
    (hT : ∀ k p q w1, k < l.length → Fl p (wy l k).1 → Fl q (wy l k).2 → J k w1 → Calls Try.prog 36 #[.complex .f64 (fl (pat l k).1) (fl (pat l k).2), .complex .f64 p q, c1, c2] w1 fun e w' => e = .returned (.tuple #[]) ∧ J (k + 1) w')
    (w : World) (h0 : J 0 w) :
    Calls Try.prog 25 #[va, .func (.func 36) #[] #[c1, c2]] w fun e w' => e = .returned (.tuple #[]) ∧ J l.length w' := by
  obtain ⟨a, c, rfl⟩ := hform
  have HJL := Lib.hid hJl
  have HJK := Lib.hid hJk
  have HT := Lib.hid hT
  have HS := Lib.hid hsm
  clear hJl hJk hT hsm
  go_enter Try.func25, Try.ntmps25
  go_wp2
  go_loopw [4, 5, 6, 9] (fun _ _ _ i wr => ∃ k : Nat, k ≤ l.length ∧ i = .int .i64 k ∧ J k wr) (fun _ _ _ i _ => l.length - (intOf i).toNat)
  case atStart => exact ⟨0, Nat.zero_le _, rfl, h0⟩
  case round =>
    clear h0
    obtain ⟨k, hk, rfl, hJ⟩ := hrel
    by_cases hlt : k < l.length
    · obtain ⟨g, o, c', ev, hc, hg, p1, p2⟩ := (HJL.out _ _ hJ).spot k hlt
      cases ev
      have hj : (k + 1) % l.length < l.length := Nat.mod_lt _ (by omega)
      obtain ⟨g', o', c', ev, hc', hg', q1, q2⟩ := (HJL.out _ _ hJ).spot _ hj
      cases ev
      have hm : Int.tmod ((k : Int) + 1) (l.length : Int) = (((k + 1) % l.length : Nat) : Int) := by
        rw [Int.tmod_eq_emod_of_nonneg (by omega)]
        rfl
      have hn : pat l ((k + 1) % l.length) = nxt l k := rfl
      have hb1 := smallP_bd (HS.out k hlt)
      have hb2 := smallP_bd (HS.out _ hj)
      have hw : wy l k = ((nxt l k).1 - (pat l k).1, (nxt l k).2 - (pat l k).2) := rfl
      rw [hn] at q1 q2 hb2
      have HT1 := Lib.hid fun p q w1 => HT.out k p q w1 hlt
      rw [hw] at HT1
      generalize (k + 1) % l.length = j at *
      generalize nxt l k = Q at *
      generalize pat l k = R at *
      obtain ⟨x2, y2⟩ := Q
      obtain ⟨x1, y1⟩ := R
      simp only at p1 p2 q1 q2 hb1 hb2 HT1
      have hHJ := Lib.hid hJ
      obtain ⟨hrun, hre, him⟩ := cDif_whole 41 (a := fl x2) (b := fl y2) (c := fl x1) (d := fl y1) (fl_small (by omega)) (fl_small (by omega)) (fl_small (by omega)) (fl_small (by omega)) (by omega) (by omega)
      have HT2 := Lib.hid (fun w1 => HT1.out _ _ w1 hre him)
      have hn0 : ((l.length : Int) == 0) = false := beq_no' (by omega)
      have hn1 : (l.length : Int) ≠ 0 := by omega
      have i0 : (0 : Int) ≤ (k : Int) := by omega
      have i1 : (k : Int) < (l.length : Int) := by omega
      have j0 : (0 : Int) ≤ (j : Int) := by omega
      have j1 : (j : Int) < (l.length : Int) := by omega
      have hB := (Below.refl wr.heap.size wr).alloc (Nat.le_refl _) (.cells #[.int .i64 x1, .int .i64 y1] 23)
      have s1 := World.block_lt_of_cell? _ _ q1
      have s2 := World.block_lt_of_cell? _ _ q2
      have q1' := (hB.cell s1).trans q1
      have q2' := (hB.cell s2).trans q2
      clear hre him hb1 hb2 hw hn HT HS HT1 hJ hg hg'
      go_wp2_with (first
        | (go_at_call 24; (with_reducible refine (fnumber_any x1 y1 _).mono ?_); rintro e w1 ⟨rfl, hb⟩; have hB1 := hB.trans (hb.mono hB.size); have q1'' := (hB1.cell s1).trans q1; have q2'' := (hB1.cell s2).trans q2; clear hb q1' q2')
        | (go_at_call 24; (with_reducible refine (fnumber_any x2 y2 _).mono ?_); rintro e w2 ⟨rfl, hb⟩; have hB2 := hB1.trans (hb.mono hB1.size); clear hb q1'' q2'')
        | (go_at_call 36; (with_reducible refine (HT2.out _ (HJK.out _ _ _ hHJ.out hB2)).mono ?_); rintro e w3 ⟨rfl, hj3⟩; have HJ3 := Lib.hid hj3; clear hj3))
      go_roundw
      case rel => exact ⟨k + 1, by omega, by go_num, HJ3.out⟩
      case measure => simp [intOf]; omega
    · have hk2 : k = l.length := by omega
      rw [hk2] at hJ
      have HJ := Lib.hid hJ
      clear hk hk2 hJ
      go_wp2
      go_end0
      exact ⟨rfl, HJ.out⟩
end Go.Proofs.Ythndmoipemnllaa
