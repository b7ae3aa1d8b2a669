/- Texts of this proof, joined: PlanRefI; PlanBase; PlanAlive. -/
import Derived.Test.YtddlgnfghecncaaBun8
import Derived.Deep.DeepCutAuto
/- The walks of the document's answers for layer 7: is it a plan. -/
namespace Go.Proofs.Ytddlgnfghecncaa
open Go.RowKit

set_option maxHeartbeats 8000000 in
set_option maxRecDepth 100000 in
theorem refPRight_any (va : Value) (l : List Ais) (w : World) (ha : AisAt w va l) (hl : l.length ≤ 9223372036854775807) :
    Calls Try.prog 12 #[va] w fun e w' => e = .returned (.bool (rightP l)) ∧ Below w.heap.size w w' := by
  obtain ⟨a, c, rfl⟩ := RowsAt.form ha
  have HA := Lib.hid ha
  clear ha
  by_cases h32 : 32 < l.length
  · have e : rightP l = false := rightP_no fun h => by have := h.1; omega
    rw [e]
    go_enter Try.func12, Try.ntmps12
    go_wp2
    go_ret
    exact ⟨rfl, Below.refl _ _⟩
  go_enter Try.func12, Try.ntmps12
  go_wp2
  go_loopw [3, 4, 5] (fun i _ _ wr => ∃ k : Nat, k ≤ l.length ∧ i = .int .i64 k ∧ Below w.heap.size w wr ∧ ∀ i, i < k → OkA l i) (fun i _ _ _ => l.length - (intOf i).toNat)
  case atStart => exact ⟨0, Nat.zero_le _, rfl, Below.refl _ _, fun i hi => absurd hi (by omega)⟩
  case round =>
    obtain ⟨k, hk, rfl, hB, hok⟩ := hrel
    have HOK := Lib.hid hok
    clear hok
    obtain ⟨wo, rfl⟩ : ∃ x, x = wr := ⟨wr, rfl⟩
    by_cases hlt : k < l.length
    · have hB1 := hB.alloc hB.size
      obtain ⟨g, o, c', i, a1, a2, b1, b2, hlk, ev, hc, hg, p0, p1, p2, p3, p4⟩ := AisAt.at (HA.out.kept hB) k hlt
      cases ev
      replace hB1 := hB1 (.cells #[.int .i64 i, .int .i64 a1, .int .i64 a2, .int .i64 b1, .int .i64 b2] 26)
      have c0 : (wo.alloc (.cells #[.int .i64 i, .int .i64 a1, .int .i64 a2, .int .i64 b1, .int .i64 b2] 26)).cell? ⟨wo.heap.size, 0, none⟩ = some (.int .i64 i) := by go_simp
      have c1 : (wo.alloc (.cells #[.int .i64 i, .int .i64 a1, .int .i64 a2, .int .i64 b1, .int .i64 b2] 26)).cell? ⟨wo.heap.size, 1, none⟩ = some (.int .i64 a1) := by go_simp
      have c2 : (wo.alloc (.cells #[.int .i64 i, .int .i64 a1, .int .i64 a2, .int .i64 b1, .int .i64 b2] 26)).cell? ⟨wo.heap.size, 2, none⟩ = some (.int .i64 a2) := by go_simp
      have c3 : (wo.alloc (.cells #[.int .i64 i, .int .i64 a1, .int .i64 a2, .int .i64 b1, .int .i64 b2] 26)).cell? ⟨wo.heap.size, 3, none⟩ = some (.int .i64 b1) := by go_simp
      have c4 : (wo.alloc (.cells #[.int .i64 i, .int .i64 a1, .int .i64 a2, .int .i64 b1, .int .i64 b2] 26)).cell? ⟨wo.heap.size, 4, none⟩ = some (.int .i64 b2) := by go_simp
      have j0 : (0 : Int) ≤ (k : Int) := by omega
      have j1 : (k : Int) < (l.length : Int) := by omega
      have hs1 := fun w => refSmall_any a1 a2 1000 w (by decide) (by decide)
      have hs2 := fun w => refSmall_any b1 b2 1000 w (by decide) (by decide)
      have hno : ¬ (1 ≤ i ∧ i ≤ 999 ∧ (0 < k → (pa l (k - 1)).id < i) ∧ smallB a1 a2 1000 = true ∧ smallB b1 b2 1000 = true ∧ a1 ≤ b1 ∧ a2 ≤ b2) → rightP l = false := fun h => rightP_no fun hr => h (by
        have ho := hr.2 k hlt
        have h1 := ho.id1; have h2 := ho.id2; have h3 := ho.up; have h4 := ho.sm; have h5 := ho.val
        rw [hlk] at h1 h2 h3 h4 h5
        unfold smallA at h4
        rw [Bool.and_eq_true] at h4
        exact ⟨h1, h2, h3, h4.1, h4.2, h5.1, h5.2⟩)
      have hyes : (1 ≤ i ∧ i ≤ 999 ∧ (0 < k → (pa l (k - 1)).id < i) ∧ smallB a1 a2 1000 = true ∧ smallB b1 b2 1000 = true ∧ a1 ≤ b1 ∧ a2 ≤ b2) → (∀ j, j < k → meetB (pa l j) (pa l k) = false) → OkA l k := fun h hap => by
        refine ⟨by rw [hlk]; exact h.1, by rw [hlk]; exact h.2.1, by rw [hlk]; exact h.2.2.1, by rw [hlk]; unfold smallA; rw [Bool.and_eq_true]; exact ⟨h.2.2.2.1, h.2.2.2.2.1⟩, by rw [hlk]; exact ⟨h.2.2.2.2.2.1, h.2.2.2.2.2.2⟩, hap⟩
      obtain ⟨pid, hpid⟩ : ∃ p, (pa l (k - 1)).id = p := ⟨_, rfl⟩
      rw [hpid] at hno hyes
      have HPID := Lib.hid hpid
      have HLK := Lib.hid hlk
      clear hlk hpid
      generalize smallB a1 a2 1000 = t1 at *
      generalize smallB b1 b2 1000 = t2 at *
      have HS1 := Lib.hid hs1
      have HS2 := Lib.hid hs2
      have HNO := Lib.hid hno
      have HYES := Lib.hid hyes
      clear hs1 hs2 hno hyes
      have hcase : i < 1 ∨ (¬ i < 1 ∧ 999 < i) ∨ (¬ i < 1 ∧ ¬ 999 < i ∧ 0 < k ∧ i ≤ pid) ∨
          ((¬ i < 1 ∧ ¬ 999 < i ∧ (k = 0 ∨ (0 < k ∧ ¬ i ≤ pid))) ∧ (t1 = false ∨ (t1 = true ∧ t2 = false) ∨ (t1 = true ∧ t2 = true ∧ b1 < a1) ∨ (t1 = true ∧ t2 = true ∧ ¬ b1 < a1 ∧ b2 < a2) ∨ (t1 = true ∧ t2 = true ∧ ¬ b1 < a1 ∧ ¬ b2 < a2))) := by
        cases t1 <;> cases t2 <;> simp <;> omega
      have hpc : ∀ m, k = m + 1 → (wo.alloc (.cells #[.int .i64 i, .int .i64 a1, .int .i64 a2, .int .i64 b1, .int .i64 b2] 26)).cell? ⟨g, o + m * 5, none⟩ = some (.int .i64 pid) := fun m h0 => by
        subst h0
        obtain ⟨g', o', c', i', d1, d2, d3, d4, hlj, ev, hc', hg', q0, q1, q2, q3, q4⟩ := AisAt.at (HA.out.kept hB1) m (by omega)
        cases ev
        rw [q0, ← HPID.out, Nat.add_sub_cancel, hlj]
      have HPC := Lib.hid hpc
      clear hpc
      rcases hcase with h1 | ⟨h1, h2⟩ | ⟨h1, h2, h3, h4⟩ | ⟨⟨h1, h2, h3 | ⟨h3, h4⟩⟩, h5⟩
      · have HN := Lib.hid (HNO.out (fun ⟨s1, s2, s3, s4, s5, s6, s7⟩ => by first | omega | (have := s3 (by omega); omega) | exact absurd s4 (by decide) | exact absurd s5 (by decide)))
        have Hh1t := Lib.hid (decide_eq_true h1)
        clear h1
        go_wp2
        clear p0 p1 p2 p3 p4
        have h1t := Hh1t.out
        refine wp_region_calm0 (by kernel_rfl) (by kernel_rfl) fun M => ?_
        have e0 := fun n : In M.w => n.cell (M.cell c0)
        have e1 := fun n : In M.w => n.cell (M.cell c1)
        have e2 := fun n : In M.w => n.cell (M.cell c2)
        have e3 := fun n : In M.w => n.cell (M.cell c3)
        have e4 := fun n : In M.w => n.cell (M.cell c4)
        repeat (go_big_quiet_step (first
          | (go_at_call 26; with_reducible exact In.call (HS1.out _))
          | (go_at_call 26; with_reducible exact In.call (HS2.out _))))
        refine wpQuiet_nil ?_
        intro w3 hb
        replace hB1 := hB1.trans (hb.mono hB1.size)
        clear e0 e1 e2 e3 e4 M
        clear hb c0 c1 c2 c3 c4
        go_wp2
        go_ret
        exact ⟨ret_b HN.out.symm, hB1⟩
      · have HN := Lib.hid (HNO.out (fun ⟨s1, s2, s3, s4, s5, s6, s7⟩ => by first | omega | (have := s3 (by omega); omega) | exact absurd s4 (by decide) | exact absurd s5 (by decide)))
        have Hh1 := Lib.hid (decide_eq_false h1)
        have Hh2t := Lib.hid (decide_eq_true h2)
        clear h1 h2
        go_wp2
        clear p0 p1 p2 p3 p4
        have h1 := Hh1.out
        have h2t := Hh2t.out
        refine wp_region_calm0 (by kernel_rfl) (by kernel_rfl) fun M => ?_
        have e0 := fun n : In M.w => n.cell (M.cell c0)
        have e1 := fun n : In M.w => n.cell (M.cell c1)
        have e2 := fun n : In M.w => n.cell (M.cell c2)
        have e3 := fun n : In M.w => n.cell (M.cell c3)
        have e4 := fun n : In M.w => n.cell (M.cell c4)
        repeat (go_big_quiet_step (first
          | (go_at_call 26; with_reducible exact In.call (HS1.out _))
          | (go_at_call 26; with_reducible exact In.call (HS2.out _))))
        refine wpQuiet_nil ?_
        intro w3 hb
        replace hB1 := hB1.trans (hb.mono hB1.size)
        clear e0 e1 e2 e3 e4 M
        clear hb c0 c1 c2 c3 c4
        go_wp2
        go_ret
        exact ⟨ret_b HN.out.symm, hB1⟩
      · obtain ⟨m, rfl⟩ : ∃ m, k = m + 1 := ⟨k - 1, by omega⟩
        have c5 := HPC.out m rfl
        have n0 : (0 : Int) ≤ (m : Int) := by omega
        have n1 : (m : Int) < (l.length : Int) := by omega
        have HN := Lib.hid (HNO.out (fun ⟨s1, s2, s3, s4, s5, s6, s7⟩ => by first | omega | (have := s3 (by omega); omega) | exact absurd s4 (by decide) | exact absurd s5 (by decide)))
        have Hh1 := Lib.hid (decide_eq_false h1)
        have Hh2 := Lib.hid (decide_eq_false h2)
        have Hh4t := Lib.hid (decide_eq_true h4)
        clear h1 h2 h4
        go_wp2
        clear p0 p1 p2 p3 p4
        have h1 := Hh1.out
        have h2 := Hh2.out
        have h4t := Hh4t.out
        have kp : decide ((0 : Int) < (m : Int) + 1) = true := decide_eq_true (by omega)
        refine wp_region_calm0 (by kernel_rfl) (by kernel_rfl) fun M => ?_
        have e0 := fun n : In M.w => n.cell (M.cell c0)
        have e1 := fun n : In M.w => n.cell (M.cell c1)
        have e2 := fun n : In M.w => n.cell (M.cell c2)
        have e3 := fun n : In M.w => n.cell (M.cell c3)
        have e4 := fun n : In M.w => n.cell (M.cell c4)
        have e5 := fun n : In M.w => n.cell (M.cell c5)
        repeat (go_big_quiet_step (first
          | (go_at_call 26; with_reducible exact In.call (HS1.out _))
          | (go_at_call 26; with_reducible exact In.call (HS2.out _))))
        refine wpQuiet_nil ?_
        intro w3 hb
        replace hB1 := hB1.trans (hb.mono hB1.size)
        clear e0 e1 e2 e3 e4 e5 M
        clear hb c0 c1 c2 c3 c4 c5
        go_wp2
        go_ret
        exact ⟨ret_b HN.out.symm, hB1⟩
      · have kz : ¬ (0 : Int) < (k : Int) := by omega
        clear HPC
        rcases h5 with rfl | ⟨rfl, rfl⟩ | ⟨rfl, rfl, h6⟩ | ⟨rfl, rfl, h6, h7⟩ | ⟨rfl, rfl, h6, h7⟩
        · have HN := Lib.hid (HNO.out (fun ⟨s1, s2, s3, s4, s5, s6, s7⟩ => by first | omega | (have := s3 (by omega); omega) | exact absurd s4 (by decide) | exact absurd s5 (by decide)))
          have Hh1 := Lib.hid (decide_eq_false h1)
          have Hh2 := Lib.hid (decide_eq_false h2)
          have Hkz := Lib.hid (decide_eq_false kz)
          clear h1 h2 kz
          have Hkn := Lib.hid (show decide (0 < k) = false from decide_eq_false (by omega))
          clear h3
          go_wp2
          clear p0 p1 p2 p3 p4
          have h1 := Hh1.out
          have h2 := Hh2.out
          have kz := Hkz.out
          have kn := Hkn.out
          refine wp_region_calm0 (by kernel_rfl) (by kernel_rfl) fun M => ?_
          have e0 := fun n : In M.w => n.cell (M.cell c0)
          have e1 := fun n : In M.w => n.cell (M.cell c1)
          have e2 := fun n : In M.w => n.cell (M.cell c2)
          have e3 := fun n : In M.w => n.cell (M.cell c3)
          have e4 := fun n : In M.w => n.cell (M.cell c4)
          repeat (go_big_quiet_step (first
            | (go_at_call 26; with_reducible exact In.call (HS1.out _))
            | (go_at_call 26; with_reducible exact In.call (HS2.out _))))
          refine wpQuiet_nil ?_
          intro w3 hb
          replace hB1 := hB1.trans (hb.mono hB1.size)
          clear e0 e1 e2 e3 e4 M
          clear hb c0 c1 c2 c3 c4
          go_wp2
          go_ret
          exact ⟨ret_b HN.out.symm, hB1⟩
        · have HN := Lib.hid (HNO.out (fun ⟨s1, s2, s3, s4, s5, s6, s7⟩ => by first | omega | (have := s3 (by omega); omega) | exact absurd s4 (by decide) | exact absurd s5 (by decide)))
          have Hh1 := Lib.hid (decide_eq_false h1)
          have Hh2 := Lib.hid (decide_eq_false h2)
          have Hkz := Lib.hid (decide_eq_false kz)
          clear h1 h2 kz
          have Hkn := Lib.hid (show decide (0 < k) = false from decide_eq_false (by omega))
          clear h3
          go_wp2
          clear p0 p1 p2 p3 p4
          have h1 := Hh1.out
          have h2 := Hh2.out
          have kz := Hkz.out
          have kn := Hkn.out
          refine wp_region_calm0 (by kernel_rfl) (by kernel_rfl) fun M => ?_
          have e0 := fun n : In M.w => n.cell (M.cell c0)
          have e1 := fun n : In M.w => n.cell (M.cell c1)
          have e2 := fun n : In M.w => n.cell (M.cell c2)
          have e3 := fun n : In M.w => n.cell (M.cell c3)
          have e4 := fun n : In M.w => n.cell (M.cell c4)
          repeat (go_big_quiet_step (first
            | (go_at_call 26; with_reducible exact In.call (HS1.out _))
            | (go_at_call 26; with_reducible exact In.call (HS2.out _))))
          refine wpQuiet_nil ?_
          intro w3 hb
          replace hB1 := hB1.trans (hb.mono hB1.size)
          clear e0 e1 e2 e3 e4 M
          clear hb c0 c1 c2 c3 c4
          go_wp2
          go_ret
          exact ⟨ret_b HN.out.symm, hB1⟩
        · have HN := Lib.hid (HNO.out (fun ⟨s1, s2, s3, s4, s5, s6, s7⟩ => by first | omega | (have := s3 (by omega); omega) | exact absurd s4 (by decide) | exact absurd s5 (by decide)))
          have Hh1 := Lib.hid (decide_eq_false h1)
          have Hh2 := Lib.hid (decide_eq_false h2)
          have Hkz := Lib.hid (decide_eq_false kz)
          have Hh6t := Lib.hid (decide_eq_true h6)
          clear h1 h2 kz h6
          have Hkn := Lib.hid (show decide (0 < k) = false from decide_eq_false (by omega))
          clear h3
          go_wp2
          clear p0 p1 p2 p3 p4
          have h1 := Hh1.out
          have h2 := Hh2.out
          have kz := Hkz.out
          have h6t := Hh6t.out
          have kn := Hkn.out
          refine wp_region_calm0 (by kernel_rfl) (by kernel_rfl) fun M => ?_
          have e0 := fun n : In M.w => n.cell (M.cell c0)
          have e1 := fun n : In M.w => n.cell (M.cell c1)
          have e2 := fun n : In M.w => n.cell (M.cell c2)
          have e3 := fun n : In M.w => n.cell (M.cell c3)
          have e4 := fun n : In M.w => n.cell (M.cell c4)
          repeat (go_big_quiet_step (first
            | (go_at_call 26; with_reducible exact In.call (HS1.out _))
            | (go_at_call 26; with_reducible exact In.call (HS2.out _))))
          refine wpQuiet_nil ?_
          intro w3 hb
          replace hB1 := hB1.trans (hb.mono hB1.size)
          clear e0 e1 e2 e3 e4 M
          clear hb c0 c1 c2 c3 c4
          go_wp2
          go_ret
          exact ⟨ret_b HN.out.symm, hB1⟩
        · have HN := Lib.hid (HNO.out (fun ⟨s1, s2, s3, s4, s5, s6, s7⟩ => by first | omega | (have := s3 (by omega); omega) | exact absurd s4 (by decide) | exact absurd s5 (by decide)))
          have Hh1 := Lib.hid (decide_eq_false h1)
          have Hh2 := Lib.hid (decide_eq_false h2)
          have Hkz := Lib.hid (decide_eq_false kz)
          have Hh6 := Lib.hid (decide_eq_false h6)
          have Hh7t := Lib.hid (decide_eq_true h7)
          clear h1 h2 kz h6 h7
          have Hkn := Lib.hid (show decide (0 < k) = false from decide_eq_false (by omega))
          clear h3
          go_wp2
          clear p0 p1 p2 p3 p4
          have h1 := Hh1.out
          have h2 := Hh2.out
          have kz := Hkz.out
          have h6 := Hh6.out
          have h7t := Hh7t.out
          have kn := Hkn.out
          refine wp_region_calm0 (by kernel_rfl) (by kernel_rfl) fun M => ?_
          have e0 := fun n : In M.w => n.cell (M.cell c0)
          have e1 := fun n : In M.w => n.cell (M.cell c1)
          have e2 := fun n : In M.w => n.cell (M.cell c2)
          have e3 := fun n : In M.w => n.cell (M.cell c3)
          have e4 := fun n : In M.w => n.cell (M.cell c4)
          repeat (go_big_quiet_step (first
            | (go_at_call 26; with_reducible exact In.call (HS1.out _))
            | (go_at_call 26; with_reducible exact In.call (HS2.out _))))
          refine wpQuiet_nil ?_
          intro w3 hb
          replace hB1 := hB1.trans (hb.mono hB1.size)
          clear e0 e1 e2 e3 e4 M
          clear hb c0 c1 c2 c3 c4
          go_wp2
          go_ret
          exact ⟨ret_b HN.out.symm, hB1⟩
        · have HY := Lib.hid (HYES.out ⟨by omega, by omega, fun _ => by omega, rfl, rfl, by omega, by omega⟩)
          have Hh1 := Lib.hid (decide_eq_false h1)
          have Hh2 := Lib.hid (decide_eq_false h2)
          have Hkz := Lib.hid (decide_eq_false kz)
          have Hh6 := Lib.hid (decide_eq_false h6)
          have Hh7 := Lib.hid (decide_eq_false h7)
          clear h1 h2 kz h6 h7
          have Hkn := Lib.hid (show decide (0 < k) = false from decide_eq_false (by omega))
          clear h3
          go_wp2
          clear p0 p1 p2 p3 p4
          have h1 := Hh1.out
          have h2 := Hh2.out
          have kz := Hkz.out
          have h6 := Hh6.out
          have h7 := Hh7.out
          have kn := Hkn.out
          refine wp_region_calm0 (by kernel_rfl) (by kernel_rfl) fun M => ?_
          have e0 := fun n : In M.w => n.cell (M.cell c0)
          have e1 := fun n : In M.w => n.cell (M.cell c1)
          have e2 := fun n : In M.w => n.cell (M.cell c2)
          have e3 := fun n : In M.w => n.cell (M.cell c3)
          have e4 := fun n : In M.w => n.cell (M.cell c4)
          repeat (go_big_quiet_step (first
            | (go_at_call 26; with_reducible exact In.call (HS1.out _))
            | (go_at_call 26; with_reducible exact In.call (HS2.out _))))
          refine wpQuiet_nil ?_
          intro w3 hb
          replace hB1 := hB1.trans (hb.mono hB1.size)
          clear e0 e1 e2 e3 e4 M
          obtain ⟨c0', c1', c2', c3', c4'⟩ : w3.cell? ⟨wo.heap.size, 0, none⟩ = some (.int .i64 i) ∧ w3.cell? ⟨wo.heap.size, 1, none⟩ = some (.int .i64 a1) ∧ w3.cell? ⟨wo.heap.size, 2, none⟩ = some (.int .i64 a2) ∧ w3.cell? ⟨wo.heap.size, 3, none⟩ = some (.int .i64 b1) ∧ w3.cell? ⟨wo.heap.size, 4, none⟩ = some (.int .i64 b2) :=
            ⟨(hb.cell (World.block_lt_of_cell? _ _ c0)).trans c0, (hb.cell (World.block_lt_of_cell? _ _ c1)).trans c1, (hb.cell (World.block_lt_of_cell? _ _ c2)).trans c2, (hb.cell (World.block_lt_of_cell? _ _ c3)).trans c3, (hb.cell (World.block_lt_of_cell? _ _ c4)).trans c4⟩
          clear hb c0 c1 c2 c3 c4
          go_wp2
          obtain ⟨wi, rfl⟩ : ∃ x, x = w3 := ⟨w3, rfl⟩
          go_loopw [5] (fun z wq => ∃ j : Nat, j ≤ k ∧ z = .int .i64 j ∧ Below wi.heap.size wi wq ∧ ∀ j', j' < j → meetB (pa l j') (pa l k) = false) (fun z _ => k - (intOf z).toNat)
          case atStart => exact ⟨0, Nat.zero_le _, rfl, Below.refl _ _, fun j' hj => absurd hj (by omega)⟩
          case round =>
            obtain ⟨j, hj, rfl, hBq, hap⟩ := hrel
            have HAP := Lib.hid hap
            clear hap
            by_cases hjl : j < k
            · have hBw := hB1.trans (hBq.mono hB1.size)
              have g0 := (hBq.cell (World.block_lt_of_cell? _ _ c0')).trans c0'
              have g1 := (hBq.cell (World.block_lt_of_cell? _ _ c1')).trans c1'
              have g2 := (hBq.cell (World.block_lt_of_cell? _ _ c2')).trans c2'
              have g3 := (hBq.cell (World.block_lt_of_cell? _ _ c3')).trans c3'
              have g4 := (hBq.cell (World.block_lt_of_cell? _ _ c4')).trans c4'
              obtain ⟨g', o', c', i', d1, d2, d3, d4, hlj, ev, hc', hg', q0, q1, q2, q3, q4⟩ := AisAt.at (HA.out.kept hBw) j (by omega)
              cases ev
              have hme := fun w => refMeet_any ⟨i', d1, d2, d3, d4⟩ ⟨i, a1, a2, b1, b2⟩ w
              obtain ⟨t, ht⟩ : ∃ t, meetB ⟨i', d1, d2, d3, d4⟩ ⟨i, a1, a2, b1, b2⟩ = t := ⟨_, rfl⟩
              rw [ht] at hme
              have ht' : meetB (pa l j) (pa l k) = t := by rw [hlj, HLK.out]; exact ht
              have HME := Lib.hid hme
              have HT := Lib.hid ht'
              have n0 : (0 : Int) ≤ (j : Int) := by omega
              have n1 : (j : Int) < (l.length : Int) := by omega
              clear hme ht hlj ht'
              go_wp2
              refine wp_region_calm0 (by kernel_rfl) (by kernel_rfl) fun M => ?_
              have e0 := fun n : In M.w => n.cell (M.cell g0)
              have e1 := fun n : In M.w => n.cell (M.cell g1)
              have e2 := fun n : In M.w => n.cell (M.cell g2)
              have e3 := fun n : In M.w => n.cell (M.cell g3)
              have e4 := fun n : In M.w => n.cell (M.cell g4)
              have f0 := fun n : In M.w => n.cell (M.cell q0)
              have f1 := fun n : In M.w => n.cell (M.cell q1)
              have f2 := fun n : In M.w => n.cell (M.cell q2)
              have f3 := fun n : In M.w => n.cell (M.cell q3)
              have f4 := fun n : In M.w => n.cell (M.cell q4)
              repeat (go_big_quiet_step ((go_at_call 14; with_reducible exact In.call (HME.out _))))
              refine wpQuiet_nil ?_
              intro w5 hb
              have hB5 := hBq.trans (hb.mono hBq.size)
              clear e0 e1 e2 e3 e4 f0 f1 f2 f3 f4 M hb g0 g1 g2 g3 g4 q0 q1 q2 q3 q4
              cases t with
              | true =>
                have HF := Lib.hid (rightP_no fun h => by have := (h.2 k hlt).apart j hjl; rw [HT.out] at this; cases this)
                go_wp2
                go_ret
                exact ⟨ret_b HF.out.symm, hB1.trans (hB5.mono hB1.size)⟩
              | false =>
                go_wp2
                go_roundw
                case rel =>
                  refine ⟨j + 1, by omega, by go_num, hB5, fun j' hj' => ?_⟩
                  by_cases e : j' = j
                  · subst e; exact HT.out
                  · exact HAP.out j' (by omega)
                case measure => simp [intOf]; omega
            · have hjk : j = k := by omega
              have hBw := hB1.trans (hBq.mono hB1.size)
              have HOK2 := Lib.hid (HY.out (fun j' h => HAP.out j' (by omega)))
              clear hjk
              go_wp2
              go_roundw
              case rel =>
                refine ⟨k + 1, by omega, by go_num, hBw, fun i' hi' => ?_⟩
                by_cases e : i' = k
                · subst e; exact HOK2.out
                · exact HOK.out i' (by omega)
              case measure => simp [intOf]; omega
      · obtain ⟨m, rfl⟩ : ∃ m, k = m + 1 := ⟨k - 1, by omega⟩
        have c5 := HPC.out m rfl
        have n0 : (0 : Int) ≤ (m : Int) := by omega
        have n1 : (m : Int) < (l.length : Int) := by omega
        rcases h5 with rfl | ⟨rfl, rfl⟩ | ⟨rfl, rfl, h6⟩ | ⟨rfl, rfl, h6, h7⟩ | ⟨rfl, rfl, h6, h7⟩
        · have HN := Lib.hid (HNO.out (fun ⟨s1, s2, s3, s4, s5, s6, s7⟩ => by first | omega | (have := s3 (by omega); omega) | exact absurd s4 (by decide) | exact absurd s5 (by decide)))
          have Hh1 := Lib.hid (decide_eq_false h1)
          have Hh2 := Lib.hid (decide_eq_false h2)
          have Hh4 := Lib.hid (decide_eq_false h4)
          clear h1 h2 h4
          go_wp2
          clear p0 p1 p2 p3 p4
          have h1 := Hh1.out
          have h2 := Hh2.out
          have h4 := Hh4.out
          have kp : decide ((0 : Int) < (m : Int) + 1) = true := decide_eq_true (by omega)
          refine wp_region_calm0 (by kernel_rfl) (by kernel_rfl) fun M => ?_
          have e0 := fun n : In M.w => n.cell (M.cell c0)
          have e1 := fun n : In M.w => n.cell (M.cell c1)
          have e2 := fun n : In M.w => n.cell (M.cell c2)
          have e3 := fun n : In M.w => n.cell (M.cell c3)
          have e4 := fun n : In M.w => n.cell (M.cell c4)
          have e5 := fun n : In M.w => n.cell (M.cell c5)
          repeat (go_big_quiet_step (first
            | (go_at_call 26; with_reducible exact In.call (HS1.out _))
            | (go_at_call 26; with_reducible exact In.call (HS2.out _))))
          refine wpQuiet_nil ?_
          intro w3 hb
          replace hB1 := hB1.trans (hb.mono hB1.size)
          clear e0 e1 e2 e3 e4 e5 M
          clear hb c0 c1 c2 c3 c4 c5
          go_wp2
          go_ret
          exact ⟨ret_b HN.out.symm, hB1⟩
        · have HN := Lib.hid (HNO.out (fun ⟨s1, s2, s3, s4, s5, s6, s7⟩ => by first | omega | (have := s3 (by omega); omega) | exact absurd s4 (by decide) | exact absurd s5 (by decide)))
          have Hh1 := Lib.hid (decide_eq_false h1)
          have Hh2 := Lib.hid (decide_eq_false h2)
          have Hh4 := Lib.hid (decide_eq_false h4)
          clear h1 h2 h4
          go_wp2
          clear p0 p1 p2 p3 p4
          have h1 := Hh1.out
          have h2 := Hh2.out
          have h4 := Hh4.out
          have kp : decide ((0 : Int) < (m : Int) + 1) = true := decide_eq_true (by omega)
          refine wp_region_calm0 (by kernel_rfl) (by kernel_rfl) fun M => ?_
          have e0 := fun n : In M.w => n.cell (M.cell c0)
          have e1 := fun n : In M.w => n.cell (M.cell c1)
          have e2 := fun n : In M.w => n.cell (M.cell c2)
          have e3 := fun n : In M.w => n.cell (M.cell c3)
          have e4 := fun n : In M.w => n.cell (M.cell c4)
          have e5 := fun n : In M.w => n.cell (M.cell c5)
          repeat (go_big_quiet_step (first
            | (go_at_call 26; with_reducible exact In.call (HS1.out _))
            | (go_at_call 26; with_reducible exact In.call (HS2.out _))))
          refine wpQuiet_nil ?_
          intro w3 hb
          replace hB1 := hB1.trans (hb.mono hB1.size)
          clear e0 e1 e2 e3 e4 e5 M
          clear hb c0 c1 c2 c3 c4 c5
          go_wp2
          go_ret
          exact ⟨ret_b HN.out.symm, hB1⟩
        · have HN := Lib.hid (HNO.out (fun ⟨s1, s2, s3, s4, s5, s6, s7⟩ => by first | omega | (have := s3 (by omega); omega) | exact absurd s4 (by decide) | exact absurd s5 (by decide)))
          have Hh1 := Lib.hid (decide_eq_false h1)
          have Hh2 := Lib.hid (decide_eq_false h2)
          have Hh4 := Lib.hid (decide_eq_false h4)
          have Hh6t := Lib.hid (decide_eq_true h6)
          clear h1 h2 h4 h6
          go_wp2
          clear p0 p1 p2 p3 p4
          have h1 := Hh1.out
          have h2 := Hh2.out
          have h4 := Hh4.out
          have h6t := Hh6t.out
          have kp : decide ((0 : Int) < (m : Int) + 1) = true := decide_eq_true (by omega)
          refine wp_region_calm0 (by kernel_rfl) (by kernel_rfl) fun M => ?_
          have e0 := fun n : In M.w => n.cell (M.cell c0)
          have e1 := fun n : In M.w => n.cell (M.cell c1)
          have e2 := fun n : In M.w => n.cell (M.cell c2)
          have e3 := fun n : In M.w => n.cell (M.cell c3)
          have e4 := fun n : In M.w => n.cell (M.cell c4)
          have e5 := fun n : In M.w => n.cell (M.cell c5)
          repeat (go_big_quiet_step (first
            | (go_at_call 26; with_reducible exact In.call (HS1.out _))
            | (go_at_call 26; with_reducible exact In.call (HS2.out _))))
          refine wpQuiet_nil ?_
          intro w3 hb
          replace hB1 := hB1.trans (hb.mono hB1.size)
          clear e0 e1 e2 e3 e4 e5 M
          clear hb c0 c1 c2 c3 c4 c5
          go_wp2
          go_ret
          exact ⟨ret_b HN.out.symm, hB1⟩
        · have HN := Lib.hid (HNO.out (fun ⟨s1, s2, s3, s4, s5, s6, s7⟩ => by first | omega | (have := s3 (by omega); omega) | exact absurd s4 (by decide) | exact absurd s5 (by decide)))
          have Hh1 := Lib.hid (decide_eq_false h1)
          have Hh2 := Lib.hid (decide_eq_false h2)
          have Hh4 := Lib.hid (decide_eq_false h4)
          have Hh6 := Lib.hid (decide_eq_false h6)
          have Hh7t := Lib.hid (decide_eq_true h7)
          clear h1 h2 h4 h6 h7
          go_wp2
          clear p0 p1 p2 p3 p4
          have h1 := Hh1.out
          have h2 := Hh2.out
          have h4 := Hh4.out
          have h6 := Hh6.out
          have h7t := Hh7t.out
          have kp : decide ((0 : Int) < (m : Int) + 1) = true := decide_eq_true (by omega)
          refine wp_region_calm0 (by kernel_rfl) (by kernel_rfl) fun M => ?_
          have e0 := fun n : In M.w => n.cell (M.cell c0)
          have e1 := fun n : In M.w => n.cell (M.cell c1)
          have e2 := fun n : In M.w => n.cell (M.cell c2)
          have e3 := fun n : In M.w => n.cell (M.cell c3)
          have e4 := fun n : In M.w => n.cell (M.cell c4)
          have e5 := fun n : In M.w => n.cell (M.cell c5)
          repeat (go_big_quiet_step (first
            | (go_at_call 26; with_reducible exact In.call (HS1.out _))
            | (go_at_call 26; with_reducible exact In.call (HS2.out _))))
          refine wpQuiet_nil ?_
          intro w3 hb
          replace hB1 := hB1.trans (hb.mono hB1.size)
          clear e0 e1 e2 e3 e4 e5 M
          clear hb c0 c1 c2 c3 c4 c5
          go_wp2
          go_ret
          exact ⟨ret_b HN.out.symm, hB1⟩
        · have HY := Lib.hid (HYES.out ⟨by omega, by omega, fun _ => by omega, rfl, rfl, by omega, by omega⟩)
          have Hh1 := Lib.hid (decide_eq_false h1)
          have Hh2 := Lib.hid (decide_eq_false h2)
          have Hh4 := Lib.hid (decide_eq_false h4)
          have Hh6 := Lib.hid (decide_eq_false h6)
          have Hh7 := Lib.hid (decide_eq_false h7)
          clear h1 h2 h4 h6 h7
          go_wp2
          clear p0 p1 p2 p3 p4
          have h1 := Hh1.out
          have h2 := Hh2.out
          have h4 := Hh4.out
          have h6 := Hh6.out
          have h7 := Hh7.out
          have kp : decide ((0 : Int) < (m : Int) + 1) = true := decide_eq_true (by omega)
          refine wp_region_calm0 (by kernel_rfl) (by kernel_rfl) fun M => ?_
          have e0 := fun n : In M.w => n.cell (M.cell c0)
          have e1 := fun n : In M.w => n.cell (M.cell c1)
          have e2 := fun n : In M.w => n.cell (M.cell c2)
          have e3 := fun n : In M.w => n.cell (M.cell c3)
          have e4 := fun n : In M.w => n.cell (M.cell c4)
          have e5 := fun n : In M.w => n.cell (M.cell c5)
          repeat (go_big_quiet_step (first
            | (go_at_call 26; with_reducible exact In.call (HS1.out _))
            | (go_at_call 26; with_reducible exact In.call (HS2.out _))))
          refine wpQuiet_nil ?_
          intro w3 hb
          replace hB1 := hB1.trans (hb.mono hB1.size)
          clear e0 e1 e2 e3 e4 e5 M
          obtain ⟨c0', c1', c2', c3', c4'⟩ : w3.cell? ⟨wo.heap.size, 0, none⟩ = some (.int .i64 i) ∧ w3.cell? ⟨wo.heap.size, 1, none⟩ = some (.int .i64 a1) ∧ w3.cell? ⟨wo.heap.size, 2, none⟩ = some (.int .i64 a2) ∧ w3.cell? ⟨wo.heap.size, 3, none⟩ = some (.int .i64 b1) ∧ w3.cell? ⟨wo.heap.size, 4, none⟩ = some (.int .i64 b2) :=
            ⟨(hb.cell (World.block_lt_of_cell? _ _ c0)).trans c0, (hb.cell (World.block_lt_of_cell? _ _ c1)).trans c1, (hb.cell (World.block_lt_of_cell? _ _ c2)).trans c2, (hb.cell (World.block_lt_of_cell? _ _ c3)).trans c3, (hb.cell (World.block_lt_of_cell? _ _ c4)).trans c4⟩
          clear hb c0 c1 c2 c3 c4 c5
          go_wp2
          obtain ⟨wi, rfl⟩ : ∃ x, x = w3 := ⟨w3, rfl⟩
          go_loopw [5] (fun z wq => ∃ j : Nat, j ≤ (m + 1) ∧ z = .int .i64 j ∧ Below wi.heap.size wi wq ∧ ∀ j', j' < j → meetB (pa l j') (pa l (m + 1)) = false) (fun z _ => (m + 1) - (intOf z).toNat)
          case atStart => exact ⟨0, Nat.zero_le _, rfl, Below.refl _ _, fun j' hj => absurd hj (by omega)⟩
          case round =>
            obtain ⟨j, hj, rfl, hBq, hap⟩ := hrel
            have HAP := Lib.hid hap
            clear hap
            by_cases hjl : j < (m + 1)
            · have hBw := hB1.trans (hBq.mono hB1.size)
              have g0 := (hBq.cell (World.block_lt_of_cell? _ _ c0')).trans c0'
              have g1 := (hBq.cell (World.block_lt_of_cell? _ _ c1')).trans c1'
              have g2 := (hBq.cell (World.block_lt_of_cell? _ _ c2')).trans c2'
              have g3 := (hBq.cell (World.block_lt_of_cell? _ _ c3')).trans c3'
              have g4 := (hBq.cell (World.block_lt_of_cell? _ _ c4')).trans c4'
              obtain ⟨g', o', c', i', d1, d2, d3, d4, hlj, ev, hc', hg', q0, q1, q2, q3, q4⟩ := AisAt.at (HA.out.kept hBw) j (by omega)
              cases ev
              have hme := fun w => refMeet_any ⟨i', d1, d2, d3, d4⟩ ⟨i, a1, a2, b1, b2⟩ w
              obtain ⟨t, ht⟩ : ∃ t, meetB ⟨i', d1, d2, d3, d4⟩ ⟨i, a1, a2, b1, b2⟩ = t := ⟨_, rfl⟩
              rw [ht] at hme
              have ht' : meetB (pa l j) (pa l (m + 1)) = t := by rw [hlj, HLK.out]; exact ht
              have HME := Lib.hid hme
              have HT := Lib.hid ht'
              have n0 : (0 : Int) ≤ (j : Int) := by omega
              have n1 : (j : Int) < (l.length : Int) := by omega
              clear hme ht hlj ht'
              go_wp2
              refine wp_region_calm0 (by kernel_rfl) (by kernel_rfl) fun M => ?_
              have e0 := fun n : In M.w => n.cell (M.cell g0)
              have e1 := fun n : In M.w => n.cell (M.cell g1)
              have e2 := fun n : In M.w => n.cell (M.cell g2)
              have e3 := fun n : In M.w => n.cell (M.cell g3)
              have e4 := fun n : In M.w => n.cell (M.cell g4)
              have f0 := fun n : In M.w => n.cell (M.cell q0)
              have f1 := fun n : In M.w => n.cell (M.cell q1)
              have f2 := fun n : In M.w => n.cell (M.cell q2)
              have f3 := fun n : In M.w => n.cell (M.cell q3)
              have f4 := fun n : In M.w => n.cell (M.cell q4)
              repeat (go_big_quiet_step ((go_at_call 14; with_reducible exact In.call (HME.out _))))
              refine wpQuiet_nil ?_
              intro w5 hb
              have hB5 := hBq.trans (hb.mono hBq.size)
              clear e0 e1 e2 e3 e4 f0 f1 f2 f3 f4 M hb g0 g1 g2 g3 g4 q0 q1 q2 q3 q4
              cases t with
              | true =>
                have HF := Lib.hid (rightP_no fun h => by have := (h.2 (m + 1) hlt).apart j hjl; rw [HT.out] at this; cases this)
                go_wp2
                go_ret
                exact ⟨ret_b HF.out.symm, hB1.trans (hB5.mono hB1.size)⟩
              | false =>
                go_wp2
                go_roundw
                case rel =>
                  refine ⟨j + 1, by omega, by go_num, hB5, fun j' hj' => ?_⟩
                  by_cases e : j' = j
                  · subst e; exact HT.out
                  · exact HAP.out j' (by omega)
                case measure => simp [intOf]; omega
            · have hjk : j = (m + 1) := by omega
              have hBw := hB1.trans (hBq.mono hB1.size)
              have HOK2 := Lib.hid (HY.out (fun j' h => HAP.out j' (by omega)))
              clear hjk
              go_wp2
              go_roundw
              case rel =>
                refine ⟨(m + 1) + 1, by omega, by go_num, hBw, fun i' hi' => ?_⟩
                by_cases e : i' = (m + 1)
                · subst e; exact HOK2.out
                · exact HOK.out i' (by omega)
              case measure => simp [intOf]; omega
    · have hk2 : k = l.length := by omega
      have HF := Lib.hid ((rightP_iff l).2 ⟨by omega, fun i hi => HOK.out i (by omega)⟩)
      rw [hk2]
      clear hk hk2 hlt
      go_wp2
      go_ret
      exact ⟨ret_b HF.out.symm, hB⟩
end Go.Proofs.Ytddlgnfghecncaa
/- What the laws of layer 7 lean on. -/
/- What must come at any rate, of plans. -/
namespace Go.Proofs.Ytddlgnfghecncaa
open Go.RowKit

def alAis : Ais := ⟨3, 2, 0, 2, 5⟩
theorem palive_right : rightP [alAis] = true := by
  rw [rightP_iff]
  refine ⟨by decide, fun i hi => ?_⟩
  have e : i = 0 := by simp at hi; exact hi
  subst e
  exact ⟨by decide, by decide, fun h => absurd h (by decide), by decide, by unfold valA; decide, fun k hk => absurd hk (by omega)⟩
theorem palive_at : atL [alAis] 2 5 = (3, true) := by decide +kernel
theorem palive_cross : crs7 (hitB (rway (wd 0, wd 1) (wd 4, wd 1) 0)) [alAis] = [3] := by decide +kernel
theorem palive_ais (w : World) : AisAt (w.alloc (.cells #[.int .i64 3, .int .i64 2, .int .i64 0, .int .i64 2, .int .i64 5] 26)) (.slice (some ⟨w.heap.size, 0, none⟩) 1 1) [alAis] := by
  have o : OwnR (w.alloc (.cells #[.int .i64 3, .int .i64 2, .int .i64 0, .int .i64 2, .int .i64 5] 26)) w.heap.size 26 5 Ais.cs (.slice (some ⟨w.heap.size, 0, none⟩) 1 1) [alAis] :=
    ⟨rfl, .inr ⟨w.heap.size, 1, #[.int .i64 3, .int .i64 2, .int .i64 0, .int .i64 2, .int .i64 5], rfl, Nat.le_refl _, heap_alloc_new w _, Nat.le_refl _, by decide, rfl, rfl⟩⟩
  exact OwnR.rows Ais.cs_len o

set_option maxHeartbeats 1000000 in
set_option maxRecDepth 100000 in
theorem pAlive_any (w : World) : Calls Try.prog 8 #[] w fun e w' => e = .returned (.bool true) ∧ Below w.heap.size w w' := by
  have h1 := fun w va ha => pCross_any va [alAis] 0 1 4 1 0 w ha (by decide)
  have h2 := fun w va ha => pAt_any va [alAis] 2 5 w ha (by decide)
  have h3 := fun w va ha => pRight_any va [alAis] w ha (by decide)
  have h4 := fun w va vb ha hb => refInts_any va vb [3] [3] w ha hb (by decide) (by decide)
  rw [palive_cross] at h1
  rw [palive_at] at h2
  rw [palive_right] at h3
  rw [decide_eq_true rfl] at h4
  have HA := Lib.hid (palive_ais w)
  have hB := (Below.refl w.heap.size w).alloc (Nat.le_refl _) (.cells #[.int .i64 3, .int .i64 2, .int .i64 0, .int .i64 2, .int .i64 5] 26)
  have H1 := Lib.hid h1
  have H2 := Lib.hid h2
  have H3 := Lib.hid h3
  have H4 := Lib.hid h4
  clear h1 h2 h3 h4
  go_enter Try.func8, Try.ntmps8
  go_wp2_with (first
    | (go_at_call 19; with_reducible refine (H1.out _ _ HA.out).mono ?_; rintro e w1 ⟨v1, rfl, hv, hb⟩; replace hB := hB.trans (hb.mono hB.size); have HA1 := Lib.hid (HA.out.kept hb); have HV := Lib.hid hv; clear hb hv HA)
    | (go_at_call 9; with_reducible refine (H2.out _ _ HA1.out).mono ?_; rintro e w2 ⟨rfl, hb⟩; replace hB := hB.trans (hb.mono hB.size); have HA2 := Lib.hid (HA1.out.kept hb); have HV2 := Lib.hid (HV.out.below hb); clear hb HA1 HV)
    | (go_at_call 11; with_reducible refine (H3.out _ _ HA2.out).mono ?_; rintro e w3 ⟨rfl, hb⟩; replace hB := hB.trans (hb.mono hB.size); have HV3 := Lib.hid ((HV2.out.below hb).below ((Below.refl _ _).alloc (Nat.le_refl _) (.cells #[.int .i64 3] 3))); have HL := Lib.hid (IntsAt.lit w3 [3] 3); replace hB := hB.alloc hB.size (.cells #[.int .i64 3] 3); clear hb HV2 HA2)
    | (go_at_call 18; refine (H4.out _ _ _ HV3.out HL.out).mono ?_; rintro e w4 ⟨rfl, hb⟩; replace hB := hB.trans (hb.mono hB.size); clear hb))
  go_ret
  exact ⟨rfl, hB⟩
end Go.Proofs.Ytddlgnfghecncaa
