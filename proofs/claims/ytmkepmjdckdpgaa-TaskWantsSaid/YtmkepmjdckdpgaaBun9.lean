/- Texts of this proof, joined: PlanRefI; SkillMath; SkillRefA. -/
import Derived.Test.YtmkepmjdckdpgaaBun8
import Derived.Test.YtmkepmjdckdpgaaRows
/- The walks of the document's answers for layer 7: is it a plan. -/
namespace Go.Proofs.Ytmkepmjdckdpgaa
open Go.RowKit

set_option maxHeartbeats 8000000 in
set_option maxRecDepth 100000 in
theorem refPRight_any (va : Value) (l : List Ais) (w : World) (ha : AisAt w va l) (hl : l.length ≤ 9223372036854775807) :
    Calls Try.prog 22 #[va] w fun e w' => e = .returned (.bool (rightP l)) ∧ Below w.heap.size w w' := by
  obtain ⟨a, c, rfl⟩ := RowsAt.form ha
  have HA := Lib.hid ha
  clear ha
  by_cases h32 : 32 < l.length
  · have e : rightP l = false := rightP_no fun h => by have := h.1; omega
    rw [e]
    go_enter Try.func22, Try.ntmps22
    go_wp2
    go_ret
    exact ⟨rfl, Below.refl _ _⟩
  go_enter Try.func22, Try.ntmps22
  go_wp2
  go_loopw [3, 4, 5] (fun i _ _ wr => ∃ k : Nat, k ≤ l.length ∧ i = .int .i64 k ∧ Below w.heap.size w wr ∧ ∀ i, i < k → OkA l i) (fun i _ _ _ => l.length - (intOf i).toNat)
  case atStart => exact ⟨0, Nat.zero_le _, rfl, Below.refl _ _, fun i hi => absurd hi (by omega)⟩
  case round =>
    obtain ⟨k, hk, rfl, hB, hok⟩ := hrel
    have HOK := Lib.hid hok
    clear hok
    obtain ⟨wo, rfl⟩ : ∃ x, x = wr := ⟨wr, rfl⟩
    by_cases hlt : k < l.length
    · have hB1 := hB.alloc hB.size
      obtain ⟨g, o, c', i, a1, a2, b1, b2, hlk, ev, hc, hg, p0, p1, p2, p3, p4⟩ := AisAt.at (HA.out.kept hB) k hlt
      cases ev
      replace hB1 := hB1 (.cells #[.int .i64 i, .int .i64 a1, .int .i64 a2, .int .i64 b1, .int .i64 b2] 45)
      have c0 : (wo.alloc (.cells #[.int .i64 i, .int .i64 a1, .int .i64 a2, .int .i64 b1, .int .i64 b2] 45)).cell? ⟨wo.heap.size, 0, none⟩ = some (.int .i64 i) := by go_simp
      have c1 : (wo.alloc (.cells #[.int .i64 i, .int .i64 a1, .int .i64 a2, .int .i64 b1, .int .i64 b2] 45)).cell? ⟨wo.heap.size, 1, none⟩ = some (.int .i64 a1) := by go_simp
      have c2 : (wo.alloc (.cells #[.int .i64 i, .int .i64 a1, .int .i64 a2, .int .i64 b1, .int .i64 b2] 45)).cell? ⟨wo.heap.size, 2, none⟩ = some (.int .i64 a2) := by go_simp
      have c3 : (wo.alloc (.cells #[.int .i64 i, .int .i64 a1, .int .i64 a2, .int .i64 b1, .int .i64 b2] 45)).cell? ⟨wo.heap.size, 3, none⟩ = some (.int .i64 b1) := by go_simp
      have c4 : (wo.alloc (.cells #[.int .i64 i, .int .i64 a1, .int .i64 a2, .int .i64 b1, .int .i64 b2] 45)).cell? ⟨wo.heap.size, 4, none⟩ = some (.int .i64 b2) := by go_simp
      have j0 : (0 : Int) ≤ (k : Int) := by omega
      have j1 : (k : Int) < (l.length : Int) := by omega
      have hs1 := fun w => refSmall_any a1 a2 1000 w (by decide) (by decide)
      have hs2 := fun w => refSmall_any b1 b2 1000 w (by decide) (by decide)
      have hno : ¬ (1 ≤ i ∧ i ≤ 999 ∧ (0 < k → (pa l (k - 1)).id < i) ∧ smallB a1 a2 1000 = true ∧ smallB b1 b2 1000 = true ∧ a1 ≤ b1 ∧ a2 ≤ b2) → rightP l = false := fun h => rightP_no fun hr => h (by
        have ho := hr.2 k hlt
        have h1 := ho.id1; have h2 := ho.id2; have h3 := ho.up; have h4 := ho.sm; have h5 := ho.val
        rw [hlk] at h1 h2 h3 h4 h5
        unfold smallA at h4
        rw [Bool.and_eq_true] at h4
        exact ⟨h1, h2, h3, h4.1, h4.2, h5.1, h5.2⟩)
      have hyes : (1 ≤ i ∧ i ≤ 999 ∧ (0 < k → (pa l (k - 1)).id < i) ∧ smallB a1 a2 1000 = true ∧ smallB b1 b2 1000 = true ∧ a1 ≤ b1 ∧ a2 ≤ b2) → (∀ j, j < k → meetB (pa l j) (pa l k) = false) → OkA l k := fun h hap => by
        refine ⟨by rw [hlk]; exact h.1, by rw [hlk]; exact h.2.1, by rw [hlk]; exact h.2.2.1, by rw [hlk]; unfold smallA; rw [Bool.and_eq_true]; exact ⟨h.2.2.2.1, h.2.2.2.2.1⟩, by rw [hlk]; exact ⟨h.2.2.2.2.2.1, h.2.2.2.2.2.2⟩, hap⟩
      obtain ⟨pid, hpid⟩ : ∃ p, (pa l (k - 1)).id = p := ⟨_, rfl⟩
      rw [hpid] at hno hyes
      have HPID := Lib.hid hpid
      have HLK := Lib.hid hlk
      clear hlk hpid
      generalize smallB a1 a2 1000 = t1 at *
      generalize smallB b1 b2 1000 = t2 at *
      have HS1 := Lib.hid hs1
      have HS2 := Lib.hid hs2
      have HNO := Lib.hid hno
      have HYES := Lib.hid hyes
      clear hs1 hs2 hno hyes
      have hcase : i < 1 ∨ (¬ i < 1 ∧ 999 < i) ∨ (¬ i < 1 ∧ ¬ 999 < i ∧ 0 < k ∧ i ≤ pid) ∨
          ((¬ i < 1 ∧ ¬ 999 < i ∧ (k = 0 ∨ (0 < k ∧ ¬ i ≤ pid))) ∧ (t1 = false ∨ (t1 = true ∧ t2 = false) ∨ (t1 = true ∧ t2 = true ∧ b1 < a1) ∨ (t1 = true ∧ t2 = true ∧ ¬ b1 < a1 ∧ b2 < a2) ∨ (t1 = true ∧ t2 = true ∧ ¬ b1 < a1 ∧ ¬ b2 < a2))) := by
        cases t1 <;> cases t2 <;> simp <;> omega
      have hpc : ∀ m, k = m + 1 → (wo.alloc (.cells #[.int .i64 i, .int .i64 a1, .int .i64 a2, .int .i64 b1, .int .i64 b2] 45)).cell? ⟨g, o + m * 5, none⟩ = some (.int .i64 pid) := fun m h0 => by
        subst h0
        obtain ⟨g', o', c', i', d1, d2, d3, d4, hlj, ev, hc', hg', q0, q1, q2, q3, q4⟩ := AisAt.at (HA.out.kept hB1) m (by omega)
        cases ev
        rw [q0, ← HPID.out, Nat.add_sub_cancel, hlj]
      have HPC := Lib.hid hpc
      clear hpc
      rcases hcase with h1 | ⟨h1, h2⟩ | ⟨h1, h2, h3, h4⟩ | ⟨⟨h1, h2, h3 | ⟨h3, h4⟩⟩, h5⟩
      · have HN := Lib.hid (HNO.out (fun ⟨s1, s2, s3, s4, s5, s6, s7⟩ => by first | omega | (have := s3 (by omega); omega) | exact absurd s4 (by decide) | exact absurd s5 (by decide)))
        have Hh1t := Lib.hid (decide_eq_true h1)
        clear h1
        go_wp2
        clear p0 p1 p2 p3 p4
        have h1t := Hh1t.out
        refine wp_region_calm0 (by kernel_rfl) (by kernel_rfl) fun M => ?_
        have e0 := fun n : In M.w => n.cell (M.cell c0)
        have e1 := fun n : In M.w => n.cell (M.cell c1)
        have e2 := fun n : In M.w => n.cell (M.cell c2)
        have e3 := fun n : In M.w => n.cell (M.cell c3)
        have e4 := fun n : In M.w => n.cell (M.cell c4)
        repeat (go_big_quiet_step (first
          | (go_at_call 28; with_reducible exact In.call (HS1.out _))
          | (go_at_call 28; with_reducible exact In.call (HS2.out _))))
        refine wpQuiet_nil ?_
        intro w3 hb
        replace hB1 := hB1.trans (hb.mono hB1.size)
        clear e0 e1 e2 e3 e4 M
        clear hb c0 c1 c2 c3 c4
        go_wp2
        go_ret
        exact ⟨ret_b HN.out.symm, hB1⟩
      · have HN := Lib.hid (HNO.out (fun ⟨s1, s2, s3, s4, s5, s6, s7⟩ => by first | omega | (have := s3 (by omega); omega) | exact absurd s4 (by decide) | exact absurd s5 (by decide)))
        have Hh1 := Lib.hid (decide_eq_false h1)
        have Hh2t := Lib.hid (decide_eq_true h2)
        clear h1 h2
        go_wp2
        clear p0 p1 p2 p3 p4
        have h1 := Hh1.out
        have h2t := Hh2t.out
        refine wp_region_calm0 (by kernel_rfl) (by kernel_rfl) fun M => ?_
        have e0 := fun n : In M.w => n.cell (M.cell c0)
        have e1 := fun n : In M.w => n.cell (M.cell c1)
        have e2 := fun n : In M.w => n.cell (M.cell c2)
        have e3 := fun n : In M.w => n.cell (M.cell c3)
        have e4 := fun n : In M.w => n.cell (M.cell c4)
        repeat (go_big_quiet_step (first
          | (go_at_call 28; with_reducible exact In.call (HS1.out _))
          | (go_at_call 28; with_reducible exact In.call (HS2.out _))))
        refine wpQuiet_nil ?_
        intro w3 hb
        replace hB1 := hB1.trans (hb.mono hB1.size)
        clear e0 e1 e2 e3 e4 M
        clear hb c0 c1 c2 c3 c4
        go_wp2
        go_ret
        exact ⟨ret_b HN.out.symm, hB1⟩
      · obtain ⟨m, rfl⟩ : ∃ m, k = m + 1 := ⟨k - 1, by omega⟩
        have c5 := HPC.out m rfl
        have n0 : (0 : Int) ≤ (m : Int) := by omega
        have n1 : (m : Int) < (l.length : Int) := by omega
        have HN := Lib.hid (HNO.out (fun ⟨s1, s2, s3, s4, s5, s6, s7⟩ => by first | omega | (have := s3 (by omega); omega) | exact absurd s4 (by decide) | exact absurd s5 (by decide)))
        have Hh1 := Lib.hid (decide_eq_false h1)
        have Hh2 := Lib.hid (decide_eq_false h2)
        have Hh4t := Lib.hid (decide_eq_true h4)
        clear h1 h2 h4
        go_wp2
        clear p0 p1 p2 p3 p4
        have h1 := Hh1.out
        have h2 := Hh2.out
        have h4t := Hh4t.out
        have kp : decide ((0 : Int) < (m : Int) + 1) = true := decide_eq_true (by omega)
        refine wp_region_calm0 (by kernel_rfl) (by kernel_rfl) fun M => ?_
        have e0 := fun n : In M.w => n.cell (M.cell c0)
        have e1 := fun n : In M.w => n.cell (M.cell c1)
        have e2 := fun n : In M.w => n.cell (M.cell c2)
        have e3 := fun n : In M.w => n.cell (M.cell c3)
        have e4 := fun n : In M.w => n.cell (M.cell c4)
        have e5 := fun n : In M.w => n.cell (M.cell c5)
        repeat (go_big_quiet_step (first
          | (go_at_call 28; with_reducible exact In.call (HS1.out _))
          | (go_at_call 28; with_reducible exact In.call (HS2.out _))))
        refine wpQuiet_nil ?_
        intro w3 hb
        replace hB1 := hB1.trans (hb.mono hB1.size)
        clear e0 e1 e2 e3 e4 e5 M
        clear hb c0 c1 c2 c3 c4 c5
        go_wp2
        go_ret
        exact ⟨ret_b HN.out.symm, hB1⟩
      · have kz : ¬ (0 : Int) < (k : Int) := by omega
        clear HPC
        rcases h5 with rfl | ⟨rfl, rfl⟩ | ⟨rfl, rfl, h6⟩ | ⟨rfl, rfl, h6, h7⟩ | ⟨rfl, rfl, h6, h7⟩
        · have HN := Lib.hid (HNO.out (fun ⟨s1, s2, s3, s4, s5, s6, s7⟩ => by first | omega | (have := s3 (by omega); omega) | exact absurd s4 (by decide) | exact absurd s5 (by decide)))
          have Hh1 := Lib.hid (decide_eq_false h1)
          have Hh2 := Lib.hid (decide_eq_false h2)
          have Hkz := Lib.hid (decide_eq_false kz)
          clear h1 h2 kz
          have Hkn := Lib.hid (show decide (0 < k) = false from decide_eq_false (by omega))
          clear h3
          go_wp2
          clear p0 p1 p2 p3 p4
          have h1 := Hh1.out
          have h2 := Hh2.out
          have kz := Hkz.out
          have kn := Hkn.out
          refine wp_region_calm0 (by kernel_rfl) (by kernel_rfl) fun M => ?_
          have e0 := fun n : In M.w => n.cell (M.cell c0)
          have e1 := fun n : In M.w => n.cell (M.cell c1)
          have e2 := fun n : In M.w => n.cell (M.cell c2)
          have e3 := fun n : In M.w => n.cell (M.cell c3)
          have e4 := fun n : In M.w => n.cell (M.cell c4)
          repeat (go_big_quiet_step (first
            | (go_at_call 28; with_reducible exact In.call (HS1.out _))
            | (go_at_call 28; with_reducible exact In.call (HS2.out _))))
          refine wpQuiet_nil ?_
          intro w3 hb
          replace hB1 := hB1.trans (hb.mono hB1.size)
          clear e0 e1 e2 e3 e4 M
          clear hb c0 c1 c2 c3 c4
          go_wp2
          go_ret
          exact ⟨ret_b HN.out.symm, hB1⟩
        · have HN := Lib.hid (HNO.out (fun ⟨s1, s2, s3, s4, s5, s6, s7⟩ => by first | omega | (have := s3 (by omega); omega) | exact absurd s4 (by decide) | exact absurd s5 (by decide)))
          have Hh1 := Lib.hid (decide_eq_false h1)
          have Hh2 := Lib.hid (decide_eq_false h2)
          have Hkz := Lib.hid (decide_eq_false kz)
          clear h1 h2 kz
          have Hkn := Lib.hid (show decide (0 < k) = false from decide_eq_false (by omega))
          clear h3
          go_wp2
          clear p0 p1 p2 p3 p4
          have h1 := Hh1.out
          have h2 := Hh2.out
          have kz := Hkz.out
          have kn := Hkn.out
          refine wp_region_calm0 (by kernel_rfl) (by kernel_rfl) fun M => ?_
          have e0 := fun n : In M.w => n.cell (M.cell c0)
          have e1 := fun n : In M.w => n.cell (M.cell c1)
          have e2 := fun n : In M.w => n.cell (M.cell c2)
          have e3 := fun n : In M.w => n.cell (M.cell c3)
          have e4 := fun n : In M.w => n.cell (M.cell c4)
          repeat (go_big_quiet_step (first
            | (go_at_call 28; with_reducible exact In.call (HS1.out _))
            | (go_at_call 28; with_reducible exact In.call (HS2.out _))))
          refine wpQuiet_nil ?_
          intro w3 hb
          replace hB1 := hB1.trans (hb.mono hB1.size)
          clear e0 e1 e2 e3 e4 M
          clear hb c0 c1 c2 c3 c4
          go_wp2
          go_ret
          exact ⟨ret_b HN.out.symm, hB1⟩
        · have HN := Lib.hid (HNO.out (fun ⟨s1, s2, s3, s4, s5, s6, s7⟩ => by first | omega | (have := s3 (by omega); omega) | exact absurd s4 (by decide) | exact absurd s5 (by decide)))
          have Hh1 := Lib.hid (decide_eq_false h1)
          have Hh2 := Lib.hid (decide_eq_false h2)
          have Hkz := Lib.hid (decide_eq_false kz)
          have Hh6t := Lib.hid (decide_eq_true h6)
          clear h1 h2 kz h6
          have Hkn := Lib.hid (show decide (0 < k) = false from decide_eq_false (by omega))
          clear h3
          go_wp2
          clear p0 p1 p2 p3 p4
          have h1 := Hh1.out
          have h2 := Hh2.out
          have kz := Hkz.out
          have h6t := Hh6t.out
          have kn := Hkn.out
          refine wp_region_calm0 (by kernel_rfl) (by kernel_rfl) fun M => ?_
          have e0 := fun n : In M.w => n.cell (M.cell c0)
          have e1 := fun n : In M.w => n.cell (M.cell c1)
          have e2 := fun n : In M.w => n.cell (M.cell c2)
          have e3 := fun n : In M.w => n.cell (M.cell c3)
          have e4 := fun n : In M.w => n.cell (M.cell c4)
          repeat (go_big_quiet_step (first
            | (go_at_call 28; with_reducible exact In.call (HS1.out _))
            | (go_at_call 28; with_reducible exact In.call (HS2.out _))))
          refine wpQuiet_nil ?_
          intro w3 hb
          replace hB1 := hB1.trans (hb.mono hB1.size)
          clear e0 e1 e2 e3 e4 M
          clear hb c0 c1 c2 c3 c4
          go_wp2
          go_ret
          exact ⟨ret_b HN.out.symm, hB1⟩
        · have HN := Lib.hid (HNO.out (fun ⟨s1, s2, s3, s4, s5, s6, s7⟩ => by first | omega | (have := s3 (by omega); omega) | exact absurd s4 (by decide) | exact absurd s5 (by decide)))
          have Hh1 := Lib.hid (decide_eq_false h1)
          have Hh2 := Lib.hid (decide_eq_false h2)
          have Hkz := Lib.hid (decide_eq_false kz)
          have Hh6 := Lib.hid (decide_eq_false h6)
          have Hh7t := Lib.hid (decide_eq_true h7)
          clear h1 h2 kz h6 h7
          have Hkn := Lib.hid (show decide (0 < k) = false from decide_eq_false (by omega))
          clear h3
          go_wp2
          clear p0 p1 p2 p3 p4
          have h1 := Hh1.out
          have h2 := Hh2.out
          have kz := Hkz.out
          have h6 := Hh6.out
          have h7t := Hh7t.out
          have kn := Hkn.out
          refine wp_region_calm0 (by kernel_rfl) (by kernel_rfl) fun M => ?_
          have e0 := fun n : In M.w => n.cell (M.cell c0)
          have e1 := fun n : In M.w => n.cell (M.cell c1)
          have e2 := fun n : In M.w => n.cell (M.cell c2)
          have e3 := fun n : In M.w => n.cell (M.cell c3)
          have e4 := fun n : In M.w => n.cell (M.cell c4)
          repeat (go_big_quiet_step (first
            | (go_at_call 28; with_reducible exact In.call (HS1.out _))
            | (go_at_call 28; with_reducible exact In.call (HS2.out _))))
          refine wpQuiet_nil ?_
          intro w3 hb
          replace hB1 := hB1.trans (hb.mono hB1.size)
          clear e0 e1 e2 e3 e4 M
          clear hb c0 c1 c2 c3 c4
          go_wp2
          go_ret
          exact ⟨ret_b HN.out.symm, hB1⟩
        · have HY := Lib.hid (HYES.out ⟨by omega, by omega, fun _ => by omega, rfl, rfl, by omega, by omega⟩)
          have Hh1 := Lib.hid (decide_eq_false h1)
          have Hh2 := Lib.hid (decide_eq_false h2)
          have Hkz := Lib.hid (decide_eq_false kz)
          have Hh6 := Lib.hid (decide_eq_false h6)
          have Hh7 := Lib.hid (decide_eq_false h7)
          clear h1 h2 kz h6 h7
          have Hkn := Lib.hid (show decide (0 < k) = false from decide_eq_false (by omega))
          clear h3
          go_wp2
          clear p0 p1 p2 p3 p4
          have h1 := Hh1.out
          have h2 := Hh2.out
          have kz := Hkz.out
          have h6 := Hh6.out
          have h7 := Hh7.out
          have kn := Hkn.out
          refine wp_region_calm0 (by kernel_rfl) (by kernel_rfl) fun M => ?_
          have e0 := fun n : In M.w => n.cell (M.cell c0)
          have e1 := fun n : In M.w => n.cell (M.cell c1)
          have e2 := fun n : In M.w => n.cell (M.cell c2)
          have e3 := fun n : In M.w => n.cell (M.cell c3)
          have e4 := fun n : In M.w => n.cell (M.cell c4)
          repeat (go_big_quiet_step (first
            | (go_at_call 28; with_reducible exact In.call (HS1.out _))
            | (go_at_call 28; with_reducible exact In.call (HS2.out _))))
          refine wpQuiet_nil ?_
          intro w3 hb
          replace hB1 := hB1.trans (hb.mono hB1.size)
          clear e0 e1 e2 e3 e4 M
          obtain ⟨c0', c1', c2', c3', c4'⟩ : w3.cell? ⟨wo.heap.size, 0, none⟩ = some (.int .i64 i) ∧ w3.cell? ⟨wo.heap.size, 1, none⟩ = some (.int .i64 a1) ∧ w3.cell? ⟨wo.heap.size, 2, none⟩ = some (.int .i64 a2) ∧ w3.cell? ⟨wo.heap.size, 3, none⟩ = some (.int .i64 b1) ∧ w3.cell? ⟨wo.heap.size, 4, none⟩ = some (.int .i64 b2) :=
            ⟨(hb.cell (World.block_lt_of_cell? _ _ c0)).trans c0, (hb.cell (World.block_lt_of_cell? _ _ c1)).trans c1, (hb.cell (World.block_lt_of_cell? _ _ c2)).trans c2, (hb.cell (World.block_lt_of_cell? _ _ c3)).trans c3, (hb.cell (World.block_lt_of_cell? _ _ c4)).trans c4⟩
          clear hb c0 c1 c2 c3 c4
          go_wp2
          obtain ⟨wi, rfl⟩ : ∃ x, x = w3 := ⟨w3, rfl⟩
          go_loopw [5] (fun z wq => ∃ j : Nat, j ≤ k ∧ z = .int .i64 j ∧ Below wi.heap.size wi wq ∧ ∀ j', j' < j → meetB (pa l j') (pa l k) = false) (fun z _ => k - (intOf z).toNat)
          case atStart => exact ⟨0, Nat.zero_le _, rfl, Below.refl _ _, fun j' hj => absurd hj (by omega)⟩
          case round =>
            obtain ⟨j, hj, rfl, hBq, hap⟩ := hrel
            have HAP := Lib.hid hap
            clear hap
            by_cases hjl : j < k
            · have hBw := hB1.trans (hBq.mono hB1.size)
              have g0 := (hBq.cell (World.block_lt_of_cell? _ _ c0')).trans c0'
              have g1 := (hBq.cell (World.block_lt_of_cell? _ _ c1')).trans c1'
              have g2 := (hBq.cell (World.block_lt_of_cell? _ _ c2')).trans c2'
              have g3 := (hBq.cell (World.block_lt_of_cell? _ _ c3')).trans c3'
              have g4 := (hBq.cell (World.block_lt_of_cell? _ _ c4')).trans c4'
              obtain ⟨g', o', c', i', d1, d2, d3, d4, hlj, ev, hc', hg', q0, q1, q2, q3, q4⟩ := AisAt.at (HA.out.kept hBw) j (by omega)
              cases ev
              have hme := fun w => refMeet_any ⟨i', d1, d2, d3, d4⟩ ⟨i, a1, a2, b1, b2⟩ w
              obtain ⟨t, ht⟩ : ∃ t, meetB ⟨i', d1, d2, d3, d4⟩ ⟨i, a1, a2, b1, b2⟩ = t := ⟨_, rfl⟩
              rw [ht] at hme
              have ht' : meetB (pa l j) (pa l k) = t := by rw [hlj, HLK.out]; exact ht
              have HME := Lib.hid hme
              have HT := Lib.hid ht'
              have n0 : (0 : Int) ≤ (j : Int) := by omega
              have n1 : (j : Int) < (l.length : Int) := by omega
              clear hme ht hlj ht'
              go_wp2
              refine wp_region_calm0 (by kernel_rfl) (by kernel_rfl) fun M => ?_
              have e0 := fun n : In M.w => n.cell (M.cell g0)
              have e1 := fun n : In M.w => n.cell (M.cell g1)
              have e2 := fun n : In M.w => n.cell (M.cell g2)
              have e3 := fun n : In M.w => n.cell (M.cell g3)
              have e4 := fun n : In M.w => n.cell (M.cell g4)
              have f0 := fun n : In M.w => n.cell (M.cell q0)
              have f1 := fun n : In M.w => n.cell (M.cell q1)
              have f2 := fun n : In M.w => n.cell (M.cell q2)
              have f3 := fun n : In M.w => n.cell (M.cell q3)
              have f4 := fun n : In M.w => n.cell (M.cell q4)
              repeat (go_big_quiet_step ((go_at_call 45; with_reducible exact In.call (HME.out _))))
              refine wpQuiet_nil ?_
              intro w5 hb
              have hB5 := hBq.trans (hb.mono hBq.size)
              clear e0 e1 e2 e3 e4 f0 f1 f2 f3 f4 M hb g0 g1 g2 g3 g4 q0 q1 q2 q3 q4
              cases t with
              | true =>
                have HF := Lib.hid (rightP_no fun h => by have := (h.2 k hlt).apart j hjl; rw [HT.out] at this; cases this)
                go_wp2
                go_ret
                exact ⟨ret_b HF.out.symm, hB1.trans (hB5.mono hB1.size)⟩
              | false =>
                go_wp2
                go_roundw
                case rel =>
                  refine ⟨j + 1, by omega, by go_num, hB5, fun j' hj' => ?_⟩
                  by_cases e : j' = j
                  · subst e; exact HT.out
                  · exact HAP.out j' (by omega)
                case measure => simp [intOf]; omega
            · have hjk : j = k := by omega
              have hBw := hB1.trans (hBq.mono hB1.size)
              have HOK2 := Lib.hid (HY.out (fun j' h => HAP.out j' (by omega)))
              clear hjk
              go_wp2
              go_roundw
              case rel =>
                refine ⟨k + 1, by omega, by go_num, hBw, fun i' hi' => ?_⟩
                by_cases e : i' = k
                · subst e; exact HOK2.out
                · exact HOK.out i' (by omega)
              case measure => simp [intOf]; omega
      · obtain ⟨m, rfl⟩ : ∃ m, k = m + 1 := ⟨k - 1, by omega⟩
        have c5 := HPC.out m rfl
        have n0 : (0 : Int) ≤ (m : Int) := by omega
        have n1 : (m : Int) < (l.length : Int) := by omega
        rcases h5 with rfl | ⟨rfl, rfl⟩ | ⟨rfl, rfl, h6⟩ | ⟨rfl, rfl, h6, h7⟩ | ⟨rfl, rfl, h6, h7⟩
        · have HN := Lib.hid (HNO.out (fun ⟨s1, s2, s3, s4, s5, s6, s7⟩ => by first | omega | (have := s3 (by omega); omega) | exact absurd s4 (by decide) | exact absurd s5 (by decide)))
          have Hh1 := Lib.hid (decide_eq_false h1)
          have Hh2 := Lib.hid (decide_eq_false h2)
          have Hh4 := Lib.hid (decide_eq_false h4)
          clear h1 h2 h4
          go_wp2
          clear p0 p1 p2 p3 p4
          have h1 := Hh1.out
          have h2 := Hh2.out
          have h4 := Hh4.out
          have kp : decide ((0 : Int) < (m : Int) + 1) = true := decide_eq_true (by omega)
          refine wp_region_calm0 (by kernel_rfl) (by kernel_rfl) fun M => ?_
          have e0 := fun n : In M.w => n.cell (M.cell c0)
          have e1 := fun n : In M.w => n.cell (M.cell c1)
          have e2 := fun n : In M.w => n.cell (M.cell c2)
          have e3 := fun n : In M.w => n.cell (M.cell c3)
          have e4 := fun n : In M.w => n.cell (M.cell c4)
          have e5 := fun n : In M.w => n.cell (M.cell c5)
          repeat (go_big_quiet_step (first
            | (go_at_call 28; with_reducible exact In.call (HS1.out _))
            | (go_at_call 28; with_reducible exact In.call (HS2.out _))))
          refine wpQuiet_nil ?_
          intro w3 hb
          replace hB1 := hB1.trans (hb.mono hB1.size)
          clear e0 e1 e2 e3 e4 e5 M
          clear hb c0 c1 c2 c3 c4 c5
          go_wp2
          go_ret
          exact ⟨ret_b HN.out.symm, hB1⟩
        · have HN := Lib.hid (HNO.out (fun ⟨s1, s2, s3, s4, s5, s6, s7⟩ => by first | omega | (have := s3 (by omega); omega) | exact absurd s4 (by decide) | exact absurd s5 (by decide)))
          have Hh1 := Lib.hid (decide_eq_false h1)
          have Hh2 := Lib.hid (decide_eq_false h2)
          have Hh4 := Lib.hid (decide_eq_false h4)
          clear h1 h2 h4
          go_wp2
          clear p0 p1 p2 p3 p4
          have h1 := Hh1.out
          have h2 := Hh2.out
          have h4 := Hh4.out
          have kp : decide ((0 : Int) < (m : Int) + 1) = true := decide_eq_true (by omega)
          refine wp_region_calm0 (by kernel_rfl) (by kernel_rfl) fun M => ?_
          have e0 := fun n : In M.w => n.cell (M.cell c0)
          have e1 := fun n : In M.w => n.cell (M.cell c1)
          have e2 := fun n : In M.w => n.cell (M.cell c2)
          have e3 := fun n : In M.w => n.cell (M.cell c3)
          have e4 := fun n : In M.w => n.cell (M.cell c4)
          have e5 := fun n : In M.w => n.cell (M.cell c5)
          repeat (go_big_quiet_step (first
            | (go_at_call 28; with_reducible exact In.call (HS1.out _))
            | (go_at_call 28; with_reducible exact In.call (HS2.out _))))
          refine wpQuiet_nil ?_
          intro w3 hb
          replace hB1 := hB1.trans (hb.mono hB1.size)
          clear e0 e1 e2 e3 e4 e5 M
          clear hb c0 c1 c2 c3 c4 c5
          go_wp2
          go_ret
          exact ⟨ret_b HN.out.symm, hB1⟩
        · have HN := Lib.hid (HNO.out (fun ⟨s1, s2, s3, s4, s5, s6, s7⟩ => by first | omega | (have := s3 (by omega); omega) | exact absurd s4 (by decide) | exact absurd s5 (by decide)))
          have Hh1 := Lib.hid (decide_eq_false h1)
          have Hh2 := Lib.hid (decide_eq_false h2)
          have Hh4 := Lib.hid (decide_eq_false h4)
          have Hh6t := Lib.hid (decide_eq_true h6)
          clear h1 h2 h4 h6
          go_wp2
          clear p0 p1 p2 p3 p4
          have h1 := Hh1.out
          have h2 := Hh2.out
          have h4 := Hh4.out
          have h6t := Hh6t.out
          have kp : decide ((0 : Int) < (m : Int) + 1) = true := decide_eq_true (by omega)
          refine wp_region_calm0 (by kernel_rfl) (by kernel_rfl) fun M => ?_
          have e0 := fun n : In M.w => n.cell (M.cell c0)
          have e1 := fun n : In M.w => n.cell (M.cell c1)
          have e2 := fun n : In M.w => n.cell (M.cell c2)
          have e3 := fun n : In M.w => n.cell (M.cell c3)
          have e4 := fun n : In M.w => n.cell (M.cell c4)
          have e5 := fun n : In M.w => n.cell (M.cell c5)
          repeat (go_big_quiet_step (first
            | (go_at_call 28; with_reducible exact In.call (HS1.out _))
            | (go_at_call 28; with_reducible exact In.call (HS2.out _))))
          refine wpQuiet_nil ?_
          intro w3 hb
          replace hB1 := hB1.trans (hb.mono hB1.size)
          clear e0 e1 e2 e3 e4 e5 M
          clear hb c0 c1 c2 c3 c4 c5
          go_wp2
          go_ret
          exact ⟨ret_b HN.out.symm, hB1⟩
        · have HN := Lib.hid (HNO.out (fun ⟨s1, s2, s3, s4, s5, s6, s7⟩ => by first | omega | (have := s3 (by omega); omega) | exact absurd s4 (by decide) | exact absurd s5 (by decide)))
          have Hh1 := Lib.hid (decide_eq_false h1)
          have Hh2 := Lib.hid (decide_eq_false h2)
          have Hh4 := Lib.hid (decide_eq_false h4)
          have Hh6 := Lib.hid (decide_eq_false h6)
          have Hh7t := Lib.hid (decide_eq_true h7)
          clear h1 h2 h4 h6 h7
          go_wp2
          clear p0 p1 p2 p3 p4
          have h1 := Hh1.out
          have h2 := Hh2.out
          have h4 := Hh4.out
          have h6 := Hh6.out
          have h7t := Hh7t.out
          have kp : decide ((0 : Int) < (m : Int) + 1) = true := decide_eq_true (by omega)
          refine wp_region_calm0 (by kernel_rfl) (by kernel_rfl) fun M => ?_
          have e0 := fun n : In M.w => n.cell (M.cell c0)
          have e1 := fun n : In M.w => n.cell (M.cell c1)
          have e2 := fun n : In M.w => n.cell (M.cell c2)
          have e3 := fun n : In M.w => n.cell (M.cell c3)
          have e4 := fun n : In M.w => n.cell (M.cell c4)
          have e5 := fun n : In M.w => n.cell (M.cell c5)
          repeat (go_big_quiet_step (first
            | (go_at_call 28; with_reducible exact In.call (HS1.out _))
            | (go_at_call 28; with_reducible exact In.call (HS2.out _))))
          refine wpQuiet_nil ?_
          intro w3 hb
          replace hB1 := hB1.trans (hb.mono hB1.size)
          clear e0 e1 e2 e3 e4 e5 M
          clear hb c0 c1 c2 c3 c4 c5
          go_wp2
          go_ret
          exact ⟨ret_b HN.out.symm, hB1⟩
        · have HY := Lib.hid (HYES.out ⟨by omega, by omega, fun _ => by omega, rfl, rfl, by omega, by omega⟩)
          have Hh1 := Lib.hid (decide_eq_false h1)
          have Hh2 := Lib.hid (decide_eq_false h2)
          have Hh4 := Lib.hid (decide_eq_false h4)
          have Hh6 := Lib.hid (decide_eq_false h6)
          have Hh7 := Lib.hid (decide_eq_false h7)
          clear h1 h2 h4 h6 h7
          go_wp2
          clear p0 p1 p2 p3 p4
          have h1 := Hh1.out
          have h2 := Hh2.out
          have h4 := Hh4.out
          have h6 := Hh6.out
          have h7 := Hh7.out
          have kp : decide ((0 : Int) < (m : Int) + 1) = true := decide_eq_true (by omega)
          refine wp_region_calm0 (by kernel_rfl) (by kernel_rfl) fun M => ?_
          have e0 := fun n : In M.w => n.cell (M.cell c0)
          have e1 := fun n : In M.w => n.cell (M.cell c1)
          have e2 := fun n : In M.w => n.cell (M.cell c2)
          have e3 := fun n : In M.w => n.cell (M.cell c3)
          have e4 := fun n : In M.w => n.cell (M.cell c4)
          have e5 := fun n : In M.w => n.cell (M.cell c5)
          repeat (go_big_quiet_step (first
            | (go_at_call 28; with_reducible exact In.call (HS1.out _))
            | (go_at_call 28; with_reducible exact In.call (HS2.out _))))
          refine wpQuiet_nil ?_
          intro w3 hb
          replace hB1 := hB1.trans (hb.mono hB1.size)
          clear e0 e1 e2 e3 e4 e5 M
          obtain ⟨c0', c1', c2', c3', c4'⟩ : w3.cell? ⟨wo.heap.size, 0, none⟩ = some (.int .i64 i) ∧ w3.cell? ⟨wo.heap.size, 1, none⟩ = some (.int .i64 a1) ∧ w3.cell? ⟨wo.heap.size, 2, none⟩ = some (.int .i64 a2) ∧ w3.cell? ⟨wo.heap.size, 3, none⟩ = some (.int .i64 b1) ∧ w3.cell? ⟨wo.heap.size, 4, none⟩ = some (.int .i64 b2) :=
            ⟨(hb.cell (World.block_lt_of_cell? _ _ c0)).trans c0, (hb.cell (World.block_lt_of_cell? _ _ c1)).trans c1, (hb.cell (World.block_lt_of_cell? _ _ c2)).trans c2, (hb.cell (World.block_lt_of_cell? _ _ c3)).trans c3, (hb.cell (World.block_lt_of_cell? _ _ c4)).trans c4⟩
          clear hb c0 c1 c2 c3 c4 c5
          go_wp2
          obtain ⟨wi, rfl⟩ : ∃ x, x = w3 := ⟨w3, rfl⟩
          go_loopw [5] (fun z wq => ∃ j : Nat, j ≤ (m + 1) ∧ z = .int .i64 j ∧ Below wi.heap.size wi wq ∧ ∀ j', j' < j → meetB (pa l j') (pa l (m + 1)) = false) (fun z _ => (m + 1) - (intOf z).toNat)
          case atStart => exact ⟨0, Nat.zero_le _, rfl, Below.refl _ _, fun j' hj => absurd hj (by omega)⟩
          case round =>
            obtain ⟨j, hj, rfl, hBq, hap⟩ := hrel
            have HAP := Lib.hid hap
            clear hap
            by_cases hjl : j < (m + 1)
            · have hBw := hB1.trans (hBq.mono hB1.size)
              have g0 := (hBq.cell (World.block_lt_of_cell? _ _ c0')).trans c0'
              have g1 := (hBq.cell (World.block_lt_of_cell? _ _ c1')).trans c1'
              have g2 := (hBq.cell (World.block_lt_of_cell? _ _ c2')).trans c2'
              have g3 := (hBq.cell (World.block_lt_of_cell? _ _ c3')).trans c3'
              have g4 := (hBq.cell (World.block_lt_of_cell? _ _ c4')).trans c4'
              obtain ⟨g', o', c', i', d1, d2, d3, d4, hlj, ev, hc', hg', q0, q1, q2, q3, q4⟩ := AisAt.at (HA.out.kept hBw) j (by omega)
              cases ev
              have hme := fun w => refMeet_any ⟨i', d1, d2, d3, d4⟩ ⟨i, a1, a2, b1, b2⟩ w
              obtain ⟨t, ht⟩ : ∃ t, meetB ⟨i', d1, d2, d3, d4⟩ ⟨i, a1, a2, b1, b2⟩ = t := ⟨_, rfl⟩
              rw [ht] at hme
              have ht' : meetB (pa l j) (pa l (m + 1)) = t := by rw [hlj, HLK.out]; exact ht
              have HME := Lib.hid hme
              have HT := Lib.hid ht'
              have n0 : (0 : Int) ≤ (j : Int) := by omega
              have n1 : (j : Int) < (l.length : Int) := by omega
              clear hme ht hlj ht'
              go_wp2
              refine wp_region_calm0 (by kernel_rfl) (by kernel_rfl) fun M => ?_
              have e0 := fun n : In M.w => n.cell (M.cell g0)
              have e1 := fun n : In M.w => n.cell (M.cell g1)
              have e2 := fun n : In M.w => n.cell (M.cell g2)
              have e3 := fun n : In M.w => n.cell (M.cell g3)
              have e4 := fun n : In M.w => n.cell (M.cell g4)
              have f0 := fun n : In M.w => n.cell (M.cell q0)
              have f1 := fun n : In M.w => n.cell (M.cell q1)
              have f2 := fun n : In M.w => n.cell (M.cell q2)
              have f3 := fun n : In M.w => n.cell (M.cell q3)
              have f4 := fun n : In M.w => n.cell (M.cell q4)
              repeat (go_big_quiet_step ((go_at_call 45; with_reducible exact In.call (HME.out _))))
              refine wpQuiet_nil ?_
              intro w5 hb
              have hB5 := hBq.trans (hb.mono hBq.size)
              clear e0 e1 e2 e3 e4 f0 f1 f2 f3 f4 M hb g0 g1 g2 g3 g4 q0 q1 q2 q3 q4
              cases t with
              | true =>
                have HF := Lib.hid (rightP_no fun h => by have := (h.2 (m + 1) hlt).apart j hjl; rw [HT.out] at this; cases this)
                go_wp2
                go_ret
                exact ⟨ret_b HF.out.symm, hB1.trans (hB5.mono hB1.size)⟩
              | false =>
                go_wp2
                go_roundw
                case rel =>
                  refine ⟨j + 1, by omega, by go_num, hB5, fun j' hj' => ?_⟩
                  by_cases e : j' = j
                  · subst e; exact HT.out
                  · exact HAP.out j' (by omega)
                case measure => simp [intOf]; omega
            · have hjk : j = (m + 1) := by omega
              have hBw := hB1.trans (hBq.mono hB1.size)
              have HOK2 := Lib.hid (HY.out (fun j' h => HAP.out j' (by omega)))
              clear hjk
              go_wp2
              go_roundw
              case rel =>
                refine ⟨(m + 1) + 1, by omega, by go_num, hBw, fun i' hi' => ?_⟩
                by_cases e : i' = (m + 1)
                · subst e; exact HOK2.out
                · exact HOK.out i' (by omega)
              case measure => simp [intOf]; omega
    · have hk2 : k = l.length := by omega
      have HF := Lib.hid ((rightP_iff l).2 ⟨by omega, fun i hi => HOK.out i (by omega)⟩)
      rw [hk2]
      clear hk hk2 hlt
      go_wp2
      go_ret
      exact ⟨ret_b HF.out.symm, hB⟩
end Go.Proofs.Ytmkepmjdckdpgaa
/- Stage 12: sets of skills as numbers; their lists, signs and texts: plain mathematics. -/
namespace Go.Proofs.Ytmkepmjdckdpgaa

/-- the skills below k -/
def lsS (w k : Nat) : List Nat := (List.range k).filter fun n => w.testBit n
theorem lsS_succ (w k : Nat) : lsS w (k + 1) = lsS w k ++ (if w.testBit k then [k] else []) := by
  unfold lsS
  rw [List.range_succ, List.filter_append]
  congr 1
  by_cases h : w.testBit k = true
  · simp [h]
  · simp [h]
theorem lsS_len (w k : Nat) : (lsS w k).length ≤ k := by
  have := List.length_filter_le (fun n => w.testBit n) (List.range k)
  rwa [List.length_range] at this
theorem mem_lsS (w k n : Nat) : n ∈ lsS w k ↔ n < k ∧ w.testBit n = true := by simp [lsS]
theorem lsS_pre (w k : Nat) : ∀ j, lsS w k <+: lsS w (k + j)
  | 0 => List.prefix_refl _
  | j + 1 => by
    rw [← Nat.add_assoc, lsS_succ]
    exact (lsS_pre w k j).trans (List.prefix_append _ _)

/-- the number of those of which P tells -/
def ofS (P : Nat → Bool) : Nat → Nat
  | 0 => 0
  | k + 1 => ofS P k + if P k then 2 ^ k else 0
theorem ofS_lt (P : Nat → Bool) : ∀ k, ofS P k < 2 ^ k
  | 0 => by simp [ofS]
  | k + 1 => by
    have := ofS_lt P k
    have e : 2 ^ (k + 1) = 2 ^ k + 2 ^ k := by rw [Nat.pow_succ]; omega
    unfold ofS
    split <;> omega
theorem ofS_congr {P Q : Nat → Bool} : ∀ k, (∀ n, n < k → P n = Q n) → ofS P k = ofS Q k
  | 0, _ => rfl
  | k + 1, h => by
    unfold ofS
    rw [ofS_congr k fun n hn => h n (by omega), h k (by omega)]
theorem ofS_bits (w : Nat) : ∀ k, ofS (fun n => w.testBit n) k = w % 2 ^ k
  | 0 => by simp [ofS, Nat.mod_one]
  | k + 1 => by
    unfold ofS
    rw [ofS_bits w k, Nat.pow_succ, Nat.mod_mul, Nat.testBit_eq_decide_div_mod_eq]
    rcases Nat.mod_two_eq_zero_or_one (w / 2 ^ k) with h | h <;> simp [h]
theorem ofS_list (w : Nat) (hw : w < 2 ^ 64) : ofS (fun n => decide (n ∈ lsS w 64)) 64 = w := by
  rw [ofS_congr (Q := fun n => w.testBit n) 64 (fun n hn => by
    by_cases h : w.testBit n = true
    · rw [h, decide_eq_true ((mem_lsS w 64 n).2 ⟨hn, h⟩)]
    · rw [decide_eq_false (fun hm => h ((mem_lsS w 64 n).1 hm).2)]
      simpa using h), ofS_bits]
  exact Nat.mod_eq_of_lt hw
theorem lsS_inj {a b : Nat} (ha : a < 2 ^ 64) (hb : b < 2 ^ 64) (h : lsS a 64 = lsS b 64) : a = b := by
  rw [← ofS_list a ha, ← ofS_list b hb, h]

/-- has a all that b has, below k? -/
def hasK (a b : Nat) : Nat → Bool
  | 0 => true
  | k + 1 => hasK a b k && (!b.testBit k || a.testBit k)
theorem hasK_iff (a b : Nat) : ∀ k, hasK a b k = true ↔ ∀ n, n < k → b.testBit n = true → a.testBit n = true
  | 0 => by simp [hasK]
  | k + 1 => by
    unfold hasK
    rw [Bool.and_eq_true, hasK_iff a b k]
    constructor
    · rintro ⟨h1, h2⟩ n hn hb
      rcases Nat.lt_or_ge n k with h | h
      · exact h1 n h hb
      · have : n = k := by omega
        subst this
        simpa [hb] using h2
    · intro h
      refine ⟨fun n hn => h n (by omega), ?_⟩
      cases hb : b.testBit k with
      | false => rfl
      | true => simp [h k (by omega) hb]
theorem hasK_self (a : Nat) : hasK a a 64 = true := (hasK_iff a a 64).2 fun _ _ h => h
theorem hasK_and (a b : Nat) : hasK a (a &&& b) 64 = true := (hasK_iff a (a &&& b) 64).2 fun n _ h => by
  rw [Nat.testBit_and, Bool.and_eq_true] at h
  exact h.1
theorem hasK_or (a b : Nat) : hasK (a ||| b) b 64 = true := (hasK_iff (a ||| b) b 64).2 fun n _ h => by
  rw [Nat.testBit_or, h, Bool.or_true]
theorem hasK_trans {a b c : Nat} (h1 : hasK a b 64 = true) (h2 : hasK b c 64 = true) : hasK a c 64 = true :=
  (hasK_iff a c 64).2 fun n hn h => (hasK_iff a b 64).1 h1 n hn ((hasK_iff b c 64).1 h2 n hn h)
theorem hasK_anti {a b : Nat} (ha : a < 2 ^ 64) (hb : b < 2 ^ 64) (h1 : hasK a b 64 = true) : hasK b a 64 = decide (a = b) := by
  by_cases h : a = b
  · subst h
    rw [hasK_self, decide_eq_true rfl]
  · rw [decide_eq_false h]
    cases h2 : hasK b a 64 with
    | false => rfl
    | true =>
      refine absurd (lsS_inj ha hb ?_) h
      unfold lsS
      refine List.filter_congr fun n hn => ?_
      have hn := List.mem_range.1 hn
      have e1 := (hasK_iff a b 64).1 h1 n hn
      have e2 := (hasK_iff b a 64).1 h2 n hn
      cases h3 : a.testBit n with
      | true => exact (e2 h3).symm
      | false =>
        cases h4 : b.testBit n with
        | true => rw [e1 h4] at h3; cases h3
        | false => rfl
theorem count_le {a b : Nat} (h : hasK a b 64 = true) : (lsS b 64).length ≤ (lsS a 64).length := by
  have key : ∀ k, k ≤ 64 → (lsS b k).length ≤ (lsS a k).length := by
    intro k
    induction k with
    | zero => intro _; simp [lsS]
    | succ k ih =>
      intro hk
      have h1 := ih (by omega)
      have h2 := (hasK_iff a b 64).1 h k (by omega)
      rw [lsS_succ, lsS_succ, List.length_append, List.length_append]
      cases h3 : b.testBit k with
      | true => simp [h2 h3]; omega
      | false => cases a.testBit k <;> simp <;> omega
  exact key 64 (Nat.le_refl _)
theorem count_sum (a b : Nat) : ∀ k, (lsS (a &&& b) k).length + (lsS (a ||| b) k).length = (lsS a k).length + (lsS b k).length
  | 0 => by simp [lsS]
  | k + 1 => by
    have h := count_sum a b k
    rw [lsS_succ, lsS_succ, lsS_succ, lsS_succ, List.length_append, List.length_append, List.length_append, List.length_append, Nat.testBit_and, Nat.testBit_or]
    cases a.testBit k <;> cases b.testBit k <;> simp <;> omega

/-! ### Signs and texts -/
def sgL : List UInt8 := [97, 98, 99, 100, 101, 102, 103, 104, 105, 106, 107, 108, 109, 110, 111, 112, 113, 114, 115, 116, 117, 118, 119, 120, 121, 122, 65, 66, 67, 68, 69, 70, 71, 72, 73, 74, 75, 76, 77, 78, 79, 80, 81, 82, 83, 84, 85, 86, 87, 88, 89, 90, 48, 49, 50, 51, 52, 53, 54, 55, 56, 57, 43, 47]
def sg (n : Nat) : UInt8 := sgL.getD n 0
theorem sg_inj : ∀ m, m < 64 → ∀ n, n < 64 → sg m = sg n → m = n := by decide +kernel
theorem sg_no : ∀ m, m < 64 → sg m ≠ 45 := by decide +kernel
def txtK (w k : Nat) : List UInt8 := (lsS w k).map sg
theorem txtK_succ (w k : Nat) : txtK w (k + 1) = txtK w k ++ (if w.testBit k then [sg k] else []) := by
  unfold txtK
  rw [lsS_succ, List.map_append]
  congr 1
  by_cases h : w.testBit k = true
  · simp [h]
  · simp [h]
theorem txtK_len (w k : Nat) : (txtK w k).length ≤ k := by
  unfold txtK
  rw [List.length_map]
  exact lsS_len w k
def txtS (w : Nat) : List UInt8 := if txtK w 64 = [] then [45] else txtK w 64
/-- what has been read of a text behind k signs -/
def parK (s : List UInt8) : Nat → List Nat
  | 0 => []
  | k + 1 => if s[(parK s k).length]? = some (sg k) then parK s k ++ [k] else parK s k
theorem parK_len (s : List UInt8) : ∀ k, (parK s k).length ≤ k
  | 0 => by simp [parK]
  | k + 1 => by
    have := parK_len s k
    unfold parK
    split
    · rw [List.length_append]; simp; omega
    · omega
theorem parK_mem (s : List UInt8) : ∀ k, ∀ n ∈ parK s k, n < k
  | 0, n, h => by simp [parK] at h
  | k + 1, n, h => by
    unfold parK at h
    split at h
    · rw [List.mem_append] at h
      rcases h with h | h
      · have := parK_mem s k n h; omega
      · simp at h; omega
    · have := parK_mem s k n h; omega
theorem parK_fits (s : List UInt8) : ∀ k, (parK s k).length ≤ s.length
  | 0 => by simp [parK]
  | k + 1 => by
    have h := parK_fits s k
    unfold parK
    split
    · rename_i h1
      have := (List.getElem?_eq_some_iff.1 h1).1
      rw [List.length_append]
      simp
      omega
    · exact h
def parS (s : List UInt8) : Nat × Bool := if s = [45] then (0, true) else if (parK s 64).length < s.length ∨ s = [] then (0, false) else (ofS (fun n => decide (n ∈ parK s 64)) 64, true)
theorem parK_txt (w : Nat) : ∀ k, k ≤ 64 → parK (txtK w 64) k = lsS w k
  | 0, _ => by simp [parK, lsS]
  | k + 1, hk => by
    have ih := parK_txt w k (by omega)
    obtain ⟨r, hr⟩ := lsS_pre w (k + 1) (64 - (k + 1))
    rw [show k + 1 + (64 - (k + 1)) = 64 by omega] at hr
    unfold parK
    rw [ih, lsS_succ]
    by_cases hb : w.testBit k = true
    · rw [if_pos hb]
      rw [lsS_succ, if_pos hb] at hr
      rw [if_pos]
      unfold txtK
      rw [← hr]
      simp
    · rw [if_neg hb, List.append_nil]
      rw [if_neg]
      intro h
      unfold txtK at h
      rw [List.getElem?_map] at h
      obtain ⟨m, hm, e⟩ := Option.map_eq_some_iff.1 h
      have h1 := (mem_lsS w 64 m).1 (List.mem_of_getElem? hm)
      have := sg_inj m h1.1 k (by omega) e
      subst this
      exact hb h1.2
theorem par_txt (w : Nat) (hw : w < 2 ^ 64) : parS (txtS w) = (w, true) := by
  unfold parS txtS
  by_cases h0 : txtK w 64 = []
  · rw [if_pos h0, if_pos rfl]
    have hl : lsS w 64 = [] := by simpa [txtK] using h0
    have := ofS_list w hw
    rw [hl] at this
    have e : ofS (fun n => decide (n ∈ ([] : List Nat))) 64 = 0 := by decide +kernel
    rw [e] at this
    rw [← this]
  · rw [if_neg h0, parK_txt w 64 (Nat.le_refl _)]
    have h1 : txtK w 64 ≠ [45] := fun h => by
      have : (45 : UInt8) ∈ txtK w 64 := by rw [h]; exact List.mem_singleton_self _
      unfold txtK at this
      obtain ⟨m, hm, e⟩ := List.mem_map.1 this
      exact sg_no m ((mem_lsS w 64 m).1 hm).1 e
    rw [if_neg h1, if_neg]
    · rw [ofS_list w hw]
    · rintro (h | h)
      · unfold txtK at h
        rw [List.length_map] at h
        omega
      · exact h0 h
theorem txt_inj {a b : Nat} (ha : a < 2 ^ 64) (hb : b < 2 ^ 64) (h : txtS a = txtS b) : a = b := by
  have h1 := par_txt a ha
  rw [h, par_txt b hb] at h1
  exact (Prod.mk.inj h1).1.symm
theorem txtS_len (w : Nat) : (txtS w).length ≤ 64 := by
  unfold txtS
  split
  · simp
  · exact txtK_len w 64
theorem parS_lt (s : List UInt8) : (parS s).1 < 2 ^ 64 := by
  unfold parS
  split
  · decide
  · split
    · decide
    · exact ofS_lt _ 64
end Go.Proofs.Ytmkepmjdckdpgaa
/- Stage 12: the document's Is, List, Of, Has. -/
namespace Go.Proofs.Ytmkepmjdckdpgaa
open Go.RowKit

theorem half_step (w k : Nat) : ((w / 2 ^ k : Nat) : Int) / 2 = ((w / 2 ^ (k + 1) : Nat) : Int) := by
  rw [Nat.pow_succ, ← Nat.div_div_eq_div_mul]
  omega

set_option maxHeartbeats 2000000 in
theorem refIs_any (w n : Nat) (W : World) (hw : w < 2 ^ 64) (hn : n < 64) :
    Calls Try.prog 59 #[.int .u64 (w : Int), .int .i64 (n : Int)] W fun e w' => e = .returned (.bool (w.testBit n)) ∧ W = w' := by
  have n0 : (0 : Int) ≤ (n : Int) := by omega
  have n1 : (n : Int) ≤ 63 := by omega
  go_enter Try.func59, Try.ntmps59
  go_wp2
  go_loopw [0, 5] (fun wv iv wr => ∃ k : Nat, k ≤ n ∧ iv = .int .i64 k ∧ wv = .int .u64 ((w / 2 ^ k : Nat) : Int) ∧ W = wr) (fun _ iv _ => n - (intOf iv).toNat)
  case atStart => exact ⟨0, Nat.zero_le _, rfl, by simp, rfl⟩
  case round =>
    obtain ⟨k, hk, rfl, rfl, rfl⟩ := hrel
    have hs := half_step w k
    have hbd : w / 2 ^ k < 2 ^ 64 := Nat.lt_of_le_of_lt (Nat.div_le_self _ _) hw
    by_cases hlt : k < n
    · have k0 : (0 : Int) ≤ (k : Int) := by omega
      have k1 : (k : Int) < (n : Int) := by omega
      generalize hx : w / 2 ^ k = x at *
      generalize hy : w / 2 ^ (k + 1) = y at *
      have HY := Lib.hid hy
      have x1 : (x : Int) ≤ 18446744073709551615 := by omega
      clear hx hy hbd
      go_wp2
      go_roundw
      case rel => exact ⟨k + 1, by omega, by go_num, by rw [HY.out], by trivial⟩
      case measure => simp [intOf] <;> omega
    · have hke : k = n := by omega
      subst hke
      have ht : w.testBit k = decide (((w / 2 ^ k : Nat) : Int) % 2 = 1) := by
        rw [Nat.testBit_eq_decide_div_mod_eq]
        exact decide_eq_decide.2 (by omega)
      have HT := Lib.hid ht
      obtain ⟨x, hx⟩ : ∃ x, w / 2 ^ k = x := ⟨_, rfl⟩
      rw [hx] at HT ⊢
      clear hs ht hbd hx
      go_wp2
      go_ret
      exact ⟨ret_b (by rw [HT.out]; by_cases h : (x : Int) % 2 = 1 <;> simp [h]), rfl⟩

/-- skills as numbers of a list -/
def ints (l : List Nat) : List Int := l.map fun (n : Nat) => (n : Int)
theorem ints_append (a b : List Nat) : ints (a ++ b) = ints a ++ ints b := List.map_append
theorem ints_len (l : List Nat) : (ints l).length = l.length := List.length_map ..

theorem oneI (w : World) (n : Int) : RowsAt (w.alloc (.cells #[.int .i64 n] 3)) 1 csI (.slice (some ⟨w.heap.size, 0, none⟩) 1 1) [n] := by
  refine ⟨_, 1, rfl, Nat.le_refl _, fun _ => ⟨w.heap.size, 0, rfl, by simp, fun j x hj i u hu => ?_⟩⟩
  have h0 : j = 0 ∧ x = n := by
    cases j with
    | zero => simp at hj; exact ⟨rfl, hj.symm⟩
    | succ j => simp at hj
  obtain ⟨rfl, rfl⟩ := h0
  have h1 : i = 0 ∧ u = .int .i64 x := by
    cases i with
    | zero => simp [csI] at hu; exact ⟨rfl, hu.symm⟩
    | succ i => simp [csI] at hu
  obtain ⟨rfl, rfl⟩ := h1
  go_simp
theorem csI_one (n : Int) : ∀ u ∈ csI n, u.oneCell' = true := by
  intro u hu
  simp [csI] at hu
  subst hu
  rfl

set_option maxHeartbeats 4000000 in
set_option maxRecDepth 100000 in
theorem refHas_any (a b : Nat) (W : World) (ha : a < 2 ^ 64) (hb : b < 2 ^ 64) :
    Calls Try.prog 37 #[.int .u64 (a : Int), .int .u64 (b : Int)] W fun e w' => e = .returned (.bool (hasK a b 64)) ∧ W = w' := by
  go_enter Try.func37, Try.ntmps37
  go_wp2
  go_loopw [5] (fun iv wr => ∃ k : Nat, k ≤ 64 ∧ iv = .int .i64 k ∧ hasK a b k = true ∧ W = wr) (fun iv _ => 64 - (intOf iv).toNat)
  case atStart => exact ⟨0, by omega, rfl, rfl, rfl⟩
  case round =>
    obtain ⟨k, hk, rfl, hK, rfl⟩ := hrel
    by_cases hlt : k < 64
    · have G1 := Lib.hid fun W' => refIs_any b k W' hb hlt
      have G2 := Lib.hid fun W' => refIs_any a k W' ha hlt
      have hsu : hasK a b (k + 1) = (hasK a b k && (!b.testBit k || a.testBit k)) := rfl
      have hno : hasK a b (k + 1) = false → hasK a b 64 = false := fun h => by
        cases h1 : hasK a b 64 with
        | false => rfl
        | true =>
          have := (hasK_iff a b (k + 1)).2 fun n hn => (hasK_iff a b 64).1 h1 n (by omega)
          rw [this] at h
          cases h
      rw [hK, Bool.true_and] at hsu
      have k0 : (k : Int) < 64 := by omega
      generalize b.testBit k = tb at *
      generalize a.testBit k = ta at *
      have HS := Lib.hid hsu
      have HN := Lib.hid hno
      clear hsu hno hK
      cases tb <;> cases ta
      case true.false =>
        go_wp2_with (first
          | (go_at_call 59; (with_reducible refine (G1.out _).mono ?_); rintro e w1 ⟨rfl, rfl⟩)
          | (go_at_call 59; (with_reducible refine (G2.out _).mono ?_); rintro e w1 ⟨rfl, rfl⟩))
        go_ret
        exact ⟨ret_b (HN.out HS.out).symm, rfl⟩
      all_goals
        go_wp2_with (first
          | (go_at_call 59; (with_reducible refine (G1.out _).mono ?_); rintro e w1 ⟨rfl, rfl⟩)
          | (go_at_call 59; (with_reducible refine (G2.out _).mono ?_); rintro e w1 ⟨rfl, rfl⟩))
        go_roundw
        case rel => exact ⟨k + 1, by omega, by go_num, HS.out, by trivial⟩
        case measure => simp [intOf] <;> omega
    · have hke : k = 64 := by omega
      subst hke
      have HK := Lib.hid hK
      clear hK
      go_wp2
      go_ret
      exact ⟨ret_b HK.out.symm, rfl⟩
end Go.Proofs.Ytmkepmjdckdpgaa
