/- The walks of the document's answers for layer 6: corners, edges, what is a fence. -/
import Derived.Test.YthndmoipemnllaaFenceTurn
import Derived.Test.YthndmoipemnllaaWalkRefN
import Derived.Test.YthndmoipemnllaaMotionR
namespace Go.Proofs.Ythndmoipemnllaa
open Go.RowKit

theorem field_x (a b : Int) (w : World) : (Instr.field 23 (.agg #[.int .i64 a, .int .i64 b]) 0).run Try.prog w = .ok (.int .i64 a) w := by
  simp [Instr.field, run_underlying Try.underlying23, asAgg, go_sem]
theorem field_y (a b : Int) (w : World) : (Instr.field 23 (.agg #[.int .i64 a, .int .i64 b]) 1).run Try.prog w = .ok (.int .i64 b) w := by
  simp [Instr.field, run_underlying Try.underlying23, asAgg, go_sem]
attribute [local go_sem high] field_x field_y

theorem pat_get (l : List (Int × Int)) (k : Nat) (h : k < l.length) : l[k]? = some (pat l k) := by
  unfold pat
  rw [List.getD_eq_getElem?_getD, List.getElem?_eq_getElem h]
  rfl
theorem PairsAt.spot {w : World} {va : Value} {l : List (Int × Int)} (h : PairsAt w va l) (k : Nat) (hk : k < l.length) : ∃ g o c, va = .slice (some ⟨g, o, none⟩) l.length c ∧ l.length ≤ c ∧ g < w.heap.size ∧ w.cell? ⟨g, o + k * 2, none⟩ = some (.int .i64 (pat l k).1) ∧ w.cell? ⟨g, o + k * 2 + 1, none⟩ = some (.int .i64 (pat l k).2) := by
  obtain ⟨a, c, rfl, hc, hx⟩ := h
  obtain ⟨g, o, rfl, hg, hxa⟩ := hx (by omega)
  obtain ⟨h1, h2⟩ := hxa k _ (pat_get l k hk)
  exact ⟨g, o, c, rfl, hc, hg, h1, h2⟩

set_option maxHeartbeats 1000000 in
set_option maxRecDepth 100000 in
theorem refNext_any (va : Value) (l : List (Int × Int)) (k : Nat) (w : World) (ha : PairsAt w va l) (hk : k < l.length) (hl : l.length ≤ 1000000) :
    Calls Try.prog 35 #[va, .int .i64 k] w fun e w' => e = .returned (.agg #[.int .i64 (nxt l k).1, .int .i64 (nxt l k).2]) ∧ Below w.heap.size w w' := by
  have hj : (k + 1) % l.length < l.length := Nat.mod_lt _ (by omega)
  obtain ⟨g, o, c, rfl, hc, hg, p1, p2⟩ := ha.spot _ hj
  have hm : Int.tmod ((k : Int) + 1) (l.length : Int) = (((k + 1) % l.length : Nat) : Int) := by
    rw [Int.tmod_eq_emod_of_nonneg (by omega)]
    rfl
  have hn : pat l ((k + 1) % l.length) = nxt l k := rfl
  rw [hn] at p1 p2
  generalize (k + 1) % l.length = j at *
  generalize nxt l k = q at *
  obtain ⟨q1, q2⟩ := q
  generalize l.length = n at *
  have hn0 : ((n : Int) == 0) = false := by simp; omega
  have hn1 : (n : Int) ≠ 0 := by omega
  have j0 : (0 : Int) ≤ (j : Int) := by omega
  have j1 : (j : Int) < (n : Int) := by omega
  simp only at p1 p2
  clear ha
  have hlt := World.block_lt_of_cell? _ _ p1
  go_enter Try.func35, Try.ntmps35
  go_wp2
  refine bodyPost_ret (v := .agg #[.int .i64 q1, .int .i64 q2]) ?_ rfl ⟨rfl, (Below.refl _ _).alloc (Nat.le_refl _) _⟩
  simp [results, Try.results35, go_sem]

set_option maxHeartbeats 2000000 in
set_option maxRecDepth 100000 in
theorem refLevel_any (va : Value) (l : List (Int × Int)) (k : Nat) (w : World) (ha : PairsAt w va l) (hk : k < l.length) (hl : l.length ≤ 1000000) :
    Calls Try.prog 29 #[va, .int .i64 k] w fun e w' => e = .returned (.bool (lev (pat l k) (nxt l k))) ∧ Below w.heap.size w w' := by
  have hnx := fun w ha => refNext_any va l k w ha hk hl
  obtain ⟨g, o, c, rfl, hc, hg, p1, p2⟩ := ha.spot k hk
  have hle : lev (pat l k) (nxt l k) = (decide ((pat l k).2 = (nxt l k).2) && decide ((pat l k).1 ≠ (nxt l k).1)) := rfl
  rw [hle]
  have HA := Lib.hid ha
  generalize nxt l k = b at *
  generalize pat l k = a at *
  obtain ⟨a1, a2⟩ := a
  obtain ⟨b1, b2⟩ := b
  simp only at p1 p2 hnx
  have j0 : (0 : Int) ≤ (k : Int) := by omega
  have j1 : (k : Int) < (l.length : Int) := by omega
  have HN := Lib.hid hnx
  clear hnx ha hle
  have hcase : (a2 == b2) = false ∨ ((a2 == b2) = true ∧ (a1 == b1) = true) ∨ ((a2 == b2) = true ∧ (a1 == b1) = false) := by
    cases a2 == b2 <;> cases a1 == b1 <;> simp
  have hB : Below w.heap.size w w := Below.refl _ _
  rcases hcase with h1 | ⟨h1, h2⟩ | ⟨h1, h2⟩
  · have e : (decide (a2 = b2) && decide (a1 ≠ b1)) = false := by
      rw [decide_eq_false (by simpa using h1)]
      rfl
    have HE := Lib.hid e
    clear e
    go_enter Try.func29, Try.ntmps29
    go_wp2
    refine wp_region_calm0 (by kernel_rfl) (by kernel_rfl) fun M => ?_
    have HP := Lib.hid fun n : In M.w => (HA.out.kept M.h).kept n.h
    have q1 := fun n : In M.w => n.cell (M.cell p1)
    have q2 := fun n : In M.w => n.cell (M.cell p2)
    repeat (go_big_quiet_step ((go_at_call 35; with_reducible exact In.call (HN.out _ (HP.out _)))))
    refine wpQuiet_nil ?_
    intro w1 hb
    clear HP q1 q2 M p1 p2
    go_wp2
    go_ret
    exact ⟨ret_b HE.out.symm, hb⟩
  · have e : (decide (a2 = b2) && decide (a1 ≠ b1)) = false := by
      rw [show decide (a1 ≠ b1) = false from decide_eq_false (by simpa using h2), Bool.and_false]
    have HE := Lib.hid e
    clear e
    go_enter Try.func29, Try.ntmps29
    go_wp2
    refine wp_region_calm0 (by kernel_rfl) (by kernel_rfl) fun M => ?_
    have HP := Lib.hid fun n : In M.w => (HA.out.kept M.h).kept n.h
    have q1 := fun n : In M.w => n.cell (M.cell p1)
    have q2 := fun n : In M.w => n.cell (M.cell p2)
    repeat (go_big_quiet_step ((go_at_call 35; with_reducible exact In.call (HN.out _ (HP.out _)))))
    refine wpQuiet_nil ?_
    intro w1 hb
    clear HP q1 q2 M p1 p2
    go_wp2
    go_ret
    exact ⟨ret_b (by rw [HE.out]; simp only [bne, h2]; rfl), hb⟩
  · have e : (decide (a2 = b2) && decide (a1 ≠ b1)) = true := by
      rw [decide_eq_true (by simpa using h1), show decide (a1 ≠ b1) = true from decide_eq_true (by simpa using h2)]
      rfl
    have HE := Lib.hid e
    clear e
    go_enter Try.func29, Try.ntmps29
    go_wp2
    refine wp_region_calm0 (by kernel_rfl) (by kernel_rfl) fun M => ?_
    have HP := Lib.hid fun n : In M.w => (HA.out.kept M.h).kept n.h
    have q1 := fun n : In M.w => n.cell (M.cell p1)
    have q2 := fun n : In M.w => n.cell (M.cell p2)
    repeat (go_big_quiet_step ((go_at_call 35; with_reducible exact In.call (HN.out _ (HP.out _)))))
    refine wpQuiet_nil ?_
    intro w1 hb
    clear HP q1 q2 M p1 p2
    go_wp2
    go_ret
    exact ⟨ret_b (by rw [HE.out]; simp only [bne, h2]; rfl), hb⟩

set_option maxHeartbeats 2000000 in
set_option maxRecDepth 100000 in
theorem refSteep_any (va : Value) (l : List (Int × Int)) (k : Nat) (w : World) (ha : PairsAt w va l) (hk : k < l.length) (hl : l.length ≤ 1000000) :
    Calls Try.prog 30 #[va, .int .i64 k] w fun e w' => e = .returned (.bool (stp (pat l k) (nxt l k))) ∧ Below w.heap.size w w' := by
  have hnx := fun w ha => refNext_any va l k w ha hk hl
  obtain ⟨g, o, c, rfl, hc, hg, p1, p2⟩ := ha.spot k hk
  have hle : stp (pat l k) (nxt l k) = (decide ((pat l k).1 = (nxt l k).1) && decide ((pat l k).2 ≠ (nxt l k).2)) := rfl
  rw [hle]
  have HA := Lib.hid ha
  generalize nxt l k = b at *
  generalize pat l k = a at *
  obtain ⟨a1, a2⟩ := a
  obtain ⟨b1, b2⟩ := b
  simp only at p1 p2 hnx
  have j0 : (0 : Int) ≤ (k : Int) := by omega
  have j1 : (k : Int) < (l.length : Int) := by omega
  have HN := Lib.hid hnx
  clear hnx ha hle
  have hcase : (a1 == b1) = false ∨ ((a1 == b1) = true ∧ (a2 == b2) = true) ∨ ((a1 == b1) = true ∧ (a2 == b2) = false) := by
    cases a1 == b1 <;> cases a2 == b2 <;> simp
  have hB : Below w.heap.size w w := Below.refl _ _
  rcases hcase with h1 | ⟨h1, h2⟩ | ⟨h1, h2⟩
  · have e : (decide (a1 = b1) && decide (a2 ≠ b2)) = false := by
      rw [decide_eq_false (by simpa using h1)]
      rfl
    have HE := Lib.hid e
    clear e
    go_enter Try.func30, Try.ntmps30
    go_wp2
    refine wp_region_calm0 (by kernel_rfl) (by kernel_rfl) fun M => ?_
    have HP := Lib.hid fun n : In M.w => (HA.out.kept M.h).kept n.h
    have q1 := fun n : In M.w => n.cell (M.cell p1)
    have q2 := fun n : In M.w => n.cell (M.cell p2)
    repeat (go_big_quiet_step ((go_at_call 35; with_reducible exact In.call (HN.out _ (HP.out _)))))
    refine wpQuiet_nil ?_
    intro w1 hb
    clear HP q1 q2 M p1 p2
    go_wp2
    go_ret
    exact ⟨ret_b HE.out.symm, hb⟩
  · have e : (decide (a1 = b1) && decide (a2 ≠ b2)) = false := by
      rw [show decide (a2 ≠ b2) = false from decide_eq_false (by simpa using h2), Bool.and_false]
    have HE := Lib.hid e
    clear e
    go_enter Try.func30, Try.ntmps30
    go_wp2
    refine wp_region_calm0 (by kernel_rfl) (by kernel_rfl) fun M => ?_
    have HP := Lib.hid fun n : In M.w => (HA.out.kept M.h).kept n.h
    have q1 := fun n : In M.w => n.cell (M.cell p1)
    have q2 := fun n : In M.w => n.cell (M.cell p2)
    repeat (go_big_quiet_step ((go_at_call 35; with_reducible exact In.call (HN.out _ (HP.out _)))))
    refine wpQuiet_nil ?_
    intro w1 hb
    clear HP q1 q2 M p1 p2
    go_wp2
    go_ret
    exact ⟨ret_b (by rw [HE.out]; simp only [bne, h2]; rfl), hb⟩
  · have e : (decide (a1 = b1) && decide (a2 ≠ b2)) = true := by
      rw [decide_eq_true (by simpa using h1), show decide (a2 ≠ b2) = true from decide_eq_true (by simpa using h2)]
      rfl
    have HE := Lib.hid e
    clear e
    go_enter Try.func30, Try.ntmps30
    go_wp2
    refine wp_region_calm0 (by kernel_rfl) (by kernel_rfl) fun M => ?_
    have HP := Lib.hid fun n : In M.w => (HA.out.kept M.h).kept n.h
    have q1 := fun n : In M.w => n.cell (M.cell p1)
    have q2 := fun n : In M.w => n.cell (M.cell p2)
    repeat (go_big_quiet_step ((go_at_call 35; with_reducible exact In.call (HN.out _ (HP.out _)))))
    refine wpQuiet_nil ?_
    intro w1 hb
    clear HP q1 q2 M p1 p2
    go_wp2
    go_ret
    exact ⟨ret_b (by rw [HE.out]; simp only [bne, h2]; rfl), hb⟩
end Go.Proofs.Ythndmoipemnllaa
