/- The walks of the document's answers for layer 6: the box. -/
import Derived.Test.YthndmoipemnllaaFenceRefE
namespace Go.Proofs.Ythndmoipemnllaa
open Go.RowKit
attribute [local go_sem high] field_x field_y

/-- the lowest so far -/
def blo (l : List (Int × Int)) : Nat → Int × Int
  | 0 => (0, 0)
  | k + 1 => (min (if k = 0 then pat l 0 else blo l k).1 (pat l k).1, min (if k = 0 then pat l 0 else blo l k).2 (pat l k).2)
/-- the highest so far -/
def bhi (l : List (Int × Int)) : Nat → Int × Int
  | 0 => (0, 0)
  | k + 1 => (max (if k = 0 then pat l 0 else bhi l k).1 (pat l k).1, max (if k = 0 then pat l 0 else bhi l k).2 (pat l k).2)
theorem blo_next (l : List (Int × Int)) (k : Nat) (h : k ≠ 0) : blo l (k + 1) = (min (blo l k).1 (pat l k).1, min (blo l k).2 (pat l k).2) := by
  show (min (if k = 0 then pat l 0 else blo l k).1 (pat l k).1, min (if k = 0 then pat l 0 else blo l k).2 (pat l k).2) = _
  rw [if_neg h]
theorem bhi_next (l : List (Int × Int)) (k : Nat) (h : k ≠ 0) : bhi l (k + 1) = (max (bhi l k).1 (pat l k).1, max (bhi l k).2 (pat l k).2) := by
  show (max (if k = 0 then pat l 0 else bhi l k).1 (pat l k).1, max (if k = 0 then pat l 0 else bhi l k).2 (pat l k).2) = _
  rw [if_neg h]
theorem Cell2.drew {w : World} {b : Nat} {u v : Value} (h : Cell2 w b u v) : Cell2 w.drew b u v := h.kept ((Below.refl _ _).drew)

set_option maxHeartbeats 4000000 in
set_option maxRecDepth 100000 in
theorem refBox_any (va : Value) (l : List (Int × Int)) (w : World) (ha : PairsAt w va l) (hl : l.length ≤ 9223372036854775807) :
    Calls Try.prog 9 #[va] w fun e w' => e = .returned (.tuple #[.agg #[.int .i64 (blo l l.length).1, .int .i64 (blo l l.length).2], .agg #[.int .i64 (bhi l l.length).1, .int .i64 (bhi l l.length).2]]) ∧ Below w.heap.size w w' := by
  have HA := Lib.hid ha
  have hform : ∃ a c, va = .slice a l.length c := by obtain ⟨a, c, e, _⟩ := ha; exact ⟨a, c, e⟩
  obtain ⟨a, c, rfl⟩ := hform
  clear ha
  obtain ⟨B, hBd⟩ : ∃ B, w.heap.size = B := ⟨_, rfl⟩
  have hB : Below B w ((((w.alloc (.cells #[.int .i64 0, .int .i64 0] 23)).alloc (.cells #[.int .i64 0, .int .i64 0] 23)).alloc (.cells #[.int .i64 0, .int .i64 0] 23)).alloc (.cells #[.int .i64 0, .int .i64 0] 23)) := ((((Below.refl _ _).alloc (by omega) _).alloc (by simp; omega) _).alloc (by simp; omega) _).alloc (by simp; omega) _
  have C0 := (((Cell2.new w (.int .i64 0) (.int .i64 0) 23).alloc (.cells #[.int .i64 0, .int .i64 0] 23)).alloc (.cells #[.int .i64 0, .int .i64 0] 23)).alloc (.cells #[.int .i64 0, .int .i64 0] 23)
  have C1 := ((Cell2.new (w.alloc (.cells #[.int .i64 0, .int .i64 0] 23)) (.int .i64 0) (.int .i64 0) 23).alloc (.cells #[.int .i64 0, .int .i64 0] 23)).alloc (.cells #[.int .i64 0, .int .i64 0] 23)
  have C2 := (Cell2.new ((w.alloc (.cells #[.int .i64 0, .int .i64 0] 23)).alloc (.cells #[.int .i64 0, .int .i64 0] 23)) (.int .i64 0) (.int .i64 0) 23).alloc (.cells #[.int .i64 0, .int .i64 0] 23)
  have C3 := Cell2.new (((w.alloc (.cells #[.int .i64 0, .int .i64 0] 23)).alloc (.cells #[.int .i64 0, .int .i64 0] 23)).alloc (.cells #[.int .i64 0, .int .i64 0] 23)) (.int .i64 0) (.int .i64 0) 23
  simp only [World.size_alloc, hBd] at C0 C1 C2 C3
  go_enter Try.func9, Try.ntmps9
  go_wp2
  go_loopw [6] (fun i wr => ∃ k : Nat, k ≤ l.length ∧ i = .int .i64 k ∧ Below B w wr ∧ Cell2 wr B (.int .i64 0) (.int .i64 0) ∧ Cell2 wr (B + 1) (.int .i64 0) (.int .i64 0) ∧ Cell2 wr (B + 1 + 1) (.int .i64 (blo l k).1) (.int .i64 (blo l k).2) ∧ Cell2 wr (B + 1 + 1 + 1) (.int .i64 (bhi l k).1) (.int .i64 (bhi l k).2)) (fun i _ => l.length - (intOf i).toNat)
  case atStart => exact ⟨0, Nat.zero_le _, rfl, hB, C0, C1, C2, C3⟩
  case round =>
    clear hB C0 C1 C2 C3
    obtain ⟨k, hk, rfl, hB, C0, C1, C2, C3⟩ := hrel
    by_cases hlt : k < l.length
    · obtain ⟨g, o, c', ev, hc, hg, p1, p2⟩ := HA.out.spot k hlt
      cases ev
      rw [hBd] at hg
      replace p1 := (hB.cell hg).trans p1
      replace p2 := (hB.cell hg).trans p2
      have g2 : g ≠ B + 1 + 1 := by omega
      have g3 : g ≠ B + 1 + 1 + 1 := by omega
      have j0 : (0 : Int) ≤ (k : Int) := by omega
      have j1 : (k : Int) < (l.length : Int) := by omega
      have hp : ∃ p, pat l k = p := ⟨_, rfl⟩
      obtain ⟨⟨x1, y1⟩, hp⟩ := hp
      by_cases hk0 : k = 0
      · subst hk0
        simp only [Nat.zero_mul, Nat.add_zero] at p1 p2
        obtain ⟨m1, hm1⟩ : ∃ m, min x1 x1 = m := ⟨_, rfl⟩
        obtain ⟨m2, hm2⟩ : ∃ m, min y1 y1 = m := ⟨_, rfl⟩
        obtain ⟨n1, hn1⟩ : ∃ m, max x1 x1 = m := ⟨_, rfl⟩
        obtain ⟨n2, hn2⟩ : ∃ m, max y1 y1 = m := ⟨_, rfl⟩
        have hlo : blo l 1 = (m1, m2) := by
          show (min (pat l 0).1 (pat l 0).1, min (pat l 0).2 (pat l 0).2) = _
          rw [hp]
          simp only
          rw [hm1, hm2]
        have hhi : bhi l 1 = (n1, n2) := by
          show (max (pat l 0).1 (pat l 0).1, max (pat l 0).2 (pat l 0).2) = _
          rw [hp]
          simp only
          rw [hn1, hn2]
        rw [hp] at p1 p2
        simp only at p1 p2
        have HL := Lib.hid hlo
        have HH := Lib.hid hhi
        clear hlo hhi hp
        go_wp2
        have E0 := ((((C0.away ⟨B + 1 + 1, 0, none⟩ (.int .i64 x1) (by show B + 1 + 1 ≠ _; omega)).away ⟨B + 1 + 1, 1, none⟩ (.int .i64 y1) (by show B + 1 + 1 ≠ _; omega)).away ⟨B + 1 + 1 + 1, 0, none⟩ (.int .i64 x1) (by show B + 1 + 1 + 1 ≠ _; omega)).away ⟨B + 1 + 1 + 1, 1, none⟩ (.int .i64 y1) (by show B + 1 + 1 + 1 ≠ _; omega)).drew
        have E1 := ((((C1.away ⟨B + 1 + 1, 0, none⟩ (.int .i64 x1) (by show B + 1 + 1 ≠ _; omega)).away ⟨B + 1 + 1, 1, none⟩ (.int .i64 y1) (by show B + 1 + 1 ≠ _; omega)).away ⟨B + 1 + 1 + 1, 0, none⟩ (.int .i64 x1) (by show B + 1 + 1 + 1 ≠ _; omega)).away ⟨B + 1 + 1 + 1, 1, none⟩ (.int .i64 y1) (by show B + 1 + 1 + 1 ≠ _; omega)).drew
        have E2 := (((C2.set (.int .i64 x1) (.int .i64 y1)).away ⟨B + 1 + 1 + 1, 0, none⟩ (.int .i64 x1) (by show B + 1 + 1 + 1 ≠ _; omega)).away ⟨B + 1 + 1 + 1, 1, none⟩ (.int .i64 y1) (by show B + 1 + 1 + 1 ≠ _; omega)).drew
        have E3 := (((C3.away ⟨B + 1 + 1, 0, none⟩ (.int .i64 x1) (by show B + 1 + 1 ≠ _; omega)).away ⟨B + 1 + 1, 1, none⟩ (.int .i64 y1) (by show B + 1 + 1 ≠ _; omega)).set (.int .i64 x1) (.int .i64 y1)).drew
        have FB : Below B w (((((wr.setCell ⟨B + 1 + 1, 0, none⟩ (.int .i64 x1)).setCell ⟨B + 1 + 1, 1, none⟩ (.int .i64 y1)).setCell ⟨B + 1 + 1 + 1, 0, none⟩ (.int .i64 x1)).setCell ⟨B + 1 + 1 + 1, 1, none⟩ (.int .i64 y1)).drew) := ((((hB.setCell (by simp; omega) _).setCell (by simp; omega) _).setCell (by simp; omega) _).setCell (by simp; omega) _).drew
        have HE0 := Lib.hid E0
        have HE1 := Lib.hid E1
        have HE2 := Lib.hid E2
        have HE3 := Lib.hid E3
        have HFB := Lib.hid FB
        have HP1 := Lib.hid ((FB.cell hg).trans ((hB.cell hg).symm.trans p1))
        have HP2 := Lib.hid ((FB.cell hg).trans ((hB.cell hg).symm.trans p2))
        clear E0 E1 E2 E3 FB C0 C1 hB
        obtain ⟨c20, c21, z20, z21⟩ := C2
        obtain ⟨c30, c31, z30, z31⟩ := C3
        go_region
        clear p1 p2 c20 c21 z20 z21 c30 c31 z30 z31
        have C0 := HE0.out
        have C1 := HE1.out
        have C2 := HE2.out
        have C3 := HE3.out
        have hB := HFB.out
        have p1 := HP1.out
        have p2 := HP2.out
        clear HE0 HE1 HE2 HE3 HFB HP1 HP2
        generalize (((((wr.setCell ⟨B + 1 + 1, 0, none⟩ (.int .i64 x1)).setCell ⟨B + 1 + 1, 1, none⟩ (.int .i64 y1)).setCell ⟨B + 1 + 1 + 1, 0, none⟩ (.int .i64 x1)).setCell ⟨B + 1 + 1 + 1, 1, none⟩ (.int .i64 y1)).drew) = w5 at *
        go_wp2
        refine wp_region_calmT 17 (by kernel_rfl) (by simp) (by kernel_rfl) fun M => ?_
        simp only [List.take_succ_cons, List.take_zero, List.drop_succ_cons, List.drop_zero]
        have e0 := fun n : In M.w => n.cell (M.cell C2.c0)
        have e1 := fun n : In M.w => n.cell (M.cell C2.c1)
        have q1 := fun n : In M.w => n.cell (M.cell p1)
        have q2 := fun n : In M.w => n.cell (M.cell p2)
        repeat (go_big_quiet_step (fail))
        refine wpQuiet_nil ?_
        intro w3 hb
        clear e0 e1 q1 q2 M
        replace C0 := ((C0.kept hb).away ⟨B + 1 + 1, 0, none⟩ (.int .i64 m1) (by show B + 1 + 1 ≠ _; omega)).away ⟨B + 1 + 1, 1, none⟩ (.int .i64 m2) (by show B + 1 + 1 ≠ _; omega)
        replace C1 := ((C1.kept hb).away ⟨B + 1 + 1, 0, none⟩ (.int .i64 m1) (by show B + 1 + 1 ≠ _; omega)).away ⟨B + 1 + 1, 1, none⟩ (.int .i64 m2) (by show B + 1 + 1 ≠ _; omega)
        replace C3 := ((C3.kept hb).away ⟨B + 1 + 1, 0, none⟩ (.int .i64 m1) (by show B + 1 + 1 ≠ _; omega)).away ⟨B + 1 + 1, 1, none⟩ (.int .i64 m2) (by show B + 1 + 1 ≠ _; omega)
        replace C2 := C2.kept hb
        replace p1 := (World.cell?_setCell_other _ ⟨B + 1 + 1, 1, none⟩ _ (.int .i64 m2) (by intro e; injection e with e; omega)).trans ((World.cell?_setCell_other _ ⟨B + 1 + 1, 0, none⟩ _ (.int .i64 m1) (by intro e; injection e with e; omega)).trans ((hb.cell (World.block_lt_of_cell? _ _ p1)).trans p1))
        replace p2 := (World.cell?_setCell_other _ ⟨B + 1 + 1, 1, none⟩ _ (.int .i64 m2) (by intro e; injection e with e; omega)).trans ((World.cell?_setCell_other _ ⟨B + 1 + 1, 0, none⟩ _ (.int .i64 m1) (by intro e; injection e with e; omega)).trans ((hb.cell (World.block_lt_of_cell? _ _ p2)).trans p2))
        replace hB : Below B w ((w3.setCell ⟨B + 1 + 1, 0, none⟩ (.int .i64 m1)).setCell ⟨B + 1 + 1, 1, none⟩ (.int .i64 m2)) := ((hB.trans (hb.mono (by have := hB.size; omega))).setCell (by simp; omega) _).setCell (by simp; omega) _
        have D2 := C2.set (.int .i64 m1) (.int .i64 m2)
        obtain ⟨c20, c21, z20, z21⟩ := C2
        have HD2 := Lib.hid D2
        clear hb D2
        go_wp2
        clear c20 c21 z20 z21
        refine wp_region_calmT 17 (by kernel_rfl) (by simp) (by kernel_rfl) fun M => ?_
        simp only [List.take_succ_cons, List.take_zero, List.drop_succ_cons, List.drop_zero]
        have e0 := fun n : In M.w => n.cell (M.cell C3.c0)
        have e1 := fun n : In M.w => n.cell (M.cell C3.c1)
        have q1 := fun n : In M.w => n.cell (M.cell p1)
        have q2 := fun n : In M.w => n.cell (M.cell p2)
        repeat (go_big_quiet_step (fail))
        refine wpQuiet_nil ?_
        intro w4 hb
        clear e0 e1 q1 q2 M p1 p2
        replace C0 := ((C0.kept hb).away ⟨B + 1 + 1 + 1, 0, none⟩ (.int .i64 n1) (by show B + 1 + 1 + 1 ≠ _; omega)).away ⟨B + 1 + 1 + 1, 1, none⟩ (.int .i64 n2) (by show B + 1 + 1 + 1 ≠ _; omega)
        replace C1 := ((C1.kept hb).away ⟨B + 1 + 1 + 1, 0, none⟩ (.int .i64 n1) (by show B + 1 + 1 + 1 ≠ _; omega)).away ⟨B + 1 + 1 + 1, 1, none⟩ (.int .i64 n2) (by show B + 1 + 1 + 1 ≠ _; omega)
        have C2 := ((HD2.out.kept hb).away ⟨B + 1 + 1 + 1, 0, none⟩ (.int .i64 n1) (by show B + 1 + 1 + 1 ≠ _; omega)).away ⟨B + 1 + 1 + 1, 1, none⟩ (.int .i64 n2) (by show B + 1 + 1 + 1 ≠ _; omega)
        replace C3 := C3.kept hb
        replace hB : Below B w ((w4.setCell ⟨B + 1 + 1 + 1, 0, none⟩ (.int .i64 n1)).setCell ⟨B + 1 + 1 + 1, 1, none⟩ (.int .i64 n2)) := ((hB.trans (hb.mono (by have := hB.size; omega))).setCell (by simp; omega) _).setCell (by simp; omega) _
        have D3 := Lib.hid (C3.set (.int .i64 n1) (.int .i64 n2))
        obtain ⟨c30, c31, z30, z31⟩ := C3
        have HC0 := Lib.hid C0
        have HC1 := Lib.hid C1
        have HC2 := Lib.hid C2
        have HBB := Lib.hid hB
        clear hb C0 C1 C2 hB
        go_wp2
        go_roundw
        case rel => exact ⟨1, by omega, by go_num, HBB.out, HC0.out, HC1.out, by rw [HL.out]; exact HC2.out, by rw [HH.out]; exact D3.out⟩
        case measure => simp [intOf]; omega
      have hk1 : ((k : Int) == 0) = false := beq_no' (by omega)
      obtain ⟨⟨a1, a2⟩, ha⟩ : ∃ q, blo l k = q := ⟨_, rfl⟩
      obtain ⟨⟨b1, b2⟩, hb⟩ : ∃ q, bhi l k = q := ⟨_, rfl⟩
      obtain ⟨m1, hm1⟩ : ∃ m, min a1 x1 = m := ⟨_, rfl⟩
      obtain ⟨m2, hm2⟩ : ∃ m, min a2 y1 = m := ⟨_, rfl⟩
      obtain ⟨n1, hn1⟩ : ∃ m, max b1 x1 = m := ⟨_, rfl⟩
      obtain ⟨n2, hn2⟩ : ∃ m, max b2 y1 = m := ⟨_, rfl⟩
      have hlo : blo l (k + 1) = (m1, m2) := by
        rw [blo_next l k hk0, ha, hp]
        simp only
        rw [hm1, hm2]
      have hhi : bhi l (k + 1) = (n1, n2) := by
        rw [bhi_next l k hk0, hb, hp]
        simp only
        rw [hn1, hn2]
      rw [hp] at p1 p2
      rw [ha] at C2
      rw [hb] at C3
      simp only at p1 p2 C2 C3
      have HL := Lib.hid hlo
      have HH := Lib.hid hhi
      clear hlo hhi hp ha hb
      go_wp2
      refine wp_region_calmT 17 (by kernel_rfl) (by simp) (by kernel_rfl) fun M => ?_
      simp only [List.take_succ_cons, List.take_zero, List.drop_succ_cons, List.drop_zero]
      have e0 := fun n : In M.w => n.cell (M.cell C2.c0)
      have e1 := fun n : In M.w => n.cell (M.cell C2.c1)
      have q1 := fun n : In M.w => n.cell (M.cell p1)
      have q2 := fun n : In M.w => n.cell (M.cell p2)
      repeat (go_big_quiet_step (fail))
      refine wpQuiet_nil ?_
      intro w3 hb
      clear e0 e1 q1 q2 M
      replace C0 := ((C0.kept hb).away ⟨B + 1 + 1, 0, none⟩ (.int .i64 m1) (by show B + 1 + 1 ≠ _; omega)).away ⟨B + 1 + 1, 1, none⟩ (.int .i64 m2) (by show B + 1 + 1 ≠ _; omega)
      replace C1 := ((C1.kept hb).away ⟨B + 1 + 1, 0, none⟩ (.int .i64 m1) (by show B + 1 + 1 ≠ _; omega)).away ⟨B + 1 + 1, 1, none⟩ (.int .i64 m2) (by show B + 1 + 1 ≠ _; omega)
      replace C3 := ((C3.kept hb).away ⟨B + 1 + 1, 0, none⟩ (.int .i64 m1) (by show B + 1 + 1 ≠ _; omega)).away ⟨B + 1 + 1, 1, none⟩ (.int .i64 m2) (by show B + 1 + 1 ≠ _; omega)
      replace C2 := C2.kept hb
      replace p1 := (World.cell?_setCell_other _ ⟨B + 1 + 1, 1, none⟩ _ (.int .i64 m2) (by intro e; injection e with e; omega)).trans ((World.cell?_setCell_other _ ⟨B + 1 + 1, 0, none⟩ _ (.int .i64 m1) (by intro e; injection e with e; omega)).trans ((hb.cell (World.block_lt_of_cell? _ _ p1)).trans p1))
      replace p2 := (World.cell?_setCell_other _ ⟨B + 1 + 1, 1, none⟩ _ (.int .i64 m2) (by intro e; injection e with e; omega)).trans ((World.cell?_setCell_other _ ⟨B + 1 + 1, 0, none⟩ _ (.int .i64 m1) (by intro e; injection e with e; omega)).trans ((hb.cell (World.block_lt_of_cell? _ _ p2)).trans p2))
      replace hB : Below B w ((w3.setCell ⟨B + 1 + 1, 0, none⟩ (.int .i64 m1)).setCell ⟨B + 1 + 1, 1, none⟩ (.int .i64 m2)) := ((hB.trans (hb.mono (by have := hB.size; omega))).setCell (by simp; omega) _).setCell (by simp; omega) _
      have D2 := C2.set (.int .i64 m1) (.int .i64 m2)
      obtain ⟨c20, c21, z20, z21⟩ := C2
      have HD2 := Lib.hid D2
      clear hb D2
      go_wp2
      clear c20 c21 z20 z21
      refine wp_region_calmT 17 (by kernel_rfl) (by simp) (by kernel_rfl) fun M => ?_
      simp only [List.take_succ_cons, List.take_zero, List.drop_succ_cons, List.drop_zero]
      have e0 := fun n : In M.w => n.cell (M.cell C3.c0)
      have e1 := fun n : In M.w => n.cell (M.cell C3.c1)
      have q1 := fun n : In M.w => n.cell (M.cell p1)
      have q2 := fun n : In M.w => n.cell (M.cell p2)
      repeat (go_big_quiet_step (fail))
      refine wpQuiet_nil ?_
      intro w4 hb
      clear e0 e1 q1 q2 M p1 p2
      replace C0 := ((C0.kept hb).away ⟨B + 1 + 1 + 1, 0, none⟩ (.int .i64 n1) (by show B + 1 + 1 + 1 ≠ _; omega)).away ⟨B + 1 + 1 + 1, 1, none⟩ (.int .i64 n2) (by show B + 1 + 1 + 1 ≠ _; omega)
      replace C1 := ((C1.kept hb).away ⟨B + 1 + 1 + 1, 0, none⟩ (.int .i64 n1) (by show B + 1 + 1 + 1 ≠ _; omega)).away ⟨B + 1 + 1 + 1, 1, none⟩ (.int .i64 n2) (by show B + 1 + 1 + 1 ≠ _; omega)
      have C2 := ((HD2.out.kept hb).away ⟨B + 1 + 1 + 1, 0, none⟩ (.int .i64 n1) (by show B + 1 + 1 + 1 ≠ _; omega)).away ⟨B + 1 + 1 + 1, 1, none⟩ (.int .i64 n2) (by show B + 1 + 1 + 1 ≠ _; omega)
      replace C3 := C3.kept hb
      replace hB : Below B w ((w4.setCell ⟨B + 1 + 1 + 1, 0, none⟩ (.int .i64 n1)).setCell ⟨B + 1 + 1 + 1, 1, none⟩ (.int .i64 n2)) := ((hB.trans (hb.mono (by have := hB.size; omega))).setCell (by simp; omega) _).setCell (by simp; omega) _
      have D3 := Lib.hid (C3.set (.int .i64 n1) (.int .i64 n2))
      obtain ⟨c30, c31, z30, z31⟩ := C3
      have HC0 := Lib.hid C0
      have HC1 := Lib.hid C1
      have HC2 := Lib.hid C2
      have HBB := Lib.hid hB
      clear hb C0 C1 C2 hB
      go_wp2
      go_roundw
      case rel => exact ⟨k + 1, by omega, by go_num, HBB.out, HC0.out, HC1.out, by rw [HL.out]; exact HC2.out, by rw [HH.out]; exact D3.out⟩
      case measure => simp [intOf]; omega
    · have hk2 : k = l.length := by omega
      rw [hk2] at C2 C3
      rw [hk2]
      clear hk hk2
      obtain ⟨⟨a1, a2⟩, he1⟩ : ∃ q, blo l l.length = q := ⟨_, rfl⟩
      obtain ⟨⟨b1, b2⟩, he2⟩ : ∃ q, bhi l l.length = q := ⟨_, rfl⟩
      rw [he1] at C2
      rw [he2] at C3
      simp only at C2 C3
      have HE1 := Lib.hid he1
      have HE2 := Lib.hid he2
      clear he1 he2
      go_wp2
      obtain ⟨c00, c01, z00, z01⟩ := C0
      obtain ⟨c10, c11, z10, z11⟩ := C1
      obtain ⟨c20, c21, z20, z21⟩ := C2
      obtain ⟨c30, c31, z30, z31⟩ := C3
      go_region
      go_wp2
      refine bodyPost_ret (v := .tuple #[.agg #[.int .i64 a1, .int .i64 a2], .agg #[.int .i64 b1, .int .i64 b2]]) ?_ rfl ⟨by rw [HE1.out, HE2.out], by rw [hBd]; exact ((((hB.setCell (by simp) _).setCell (by simp) _).setCell (by simp) _).setCell (by simp) _).drew⟩
      simp [results, Try.results9, go_sem, c00, c01, c10, c11]
end Go.Proofs.Ythndmoipemnllaa
