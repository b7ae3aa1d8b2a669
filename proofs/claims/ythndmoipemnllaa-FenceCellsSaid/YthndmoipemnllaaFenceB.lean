/- The walks of package fence: what is near; each edge. -/
import Derived.Test.YthndmoipemnllaaFenceA
namespace Go.Proofs.Ythndmoipemnllaa
open Go.RowKit
attribute [local go_sem] store_complex

theorem small_fx (q : Int × Int) : smallP q 1048576 = (decide (fx q.1 = q.1) && decide (fx q.2 = q.2)) := by
  unfold smallP fx
  rw [Bool.eq_iff_iff]
  simp only [Bool.and_eq_true, decide_eq_true_eq]
  omega

def farB (l : List (Int × Int)) (k : Nat) : Bool := (List.range k).all fun i => smallP (pat l i) 1048576
theorem farB_iff (l : List (Int × Int)) (k : Nat) : farB l k = true ↔ ∀ i, i < k → smallP (pat l i) 1048576 = true := by
  unfold farB
  simp [List.all_eq_true]
theorem farB_succ (l : List (Int × Int)) (k : Nat) : farB l (k + 1) = (farB l k && smallP (pat l k) 1048576) := by
  unfold farB
  rw [List.range_succ, List.all_append]
  simp
theorem farB_no {l : List (Int × Int)} {i k : Nat} (hi : i < k) (h : smallP (pat l i) 1048576 = false) : farB l k = false := by
  cases e : farB l k with
  | false => rfl
  | true => rw [(farB_iff l k).1 e i hi] at h; cases h

set_option maxHeartbeats 2000000 in
set_option maxRecDepth 100000 in
theorem ffar_any (va : Value) (l : List (Int × Int)) (w : World) (ha : PairsAt w va l) (hl : l.length ≤ 1000000) :
    Calls Try.prog 23 #[va] w fun e w' => e = .returned (.bool (farB l l.length)) ∧ Below w.heap.size w w' := by
  have HA := Lib.hid ha
  have hform : ∃ a c, va = .slice a l.length c := by obtain ⟨a, c, e, _⟩ := ha; exact ⟨a, c, e⟩
  obtain ⟨a, c, rfl⟩ := hform
  clear ha
  go_enter Try.func23, Try.ntmps23
  go_wp2
  go_loopw [4, 7] (fun _ i wr => ∃ k : Nat, k ≤ l.length ∧ i = .int .i64 k ∧ Below w.heap.size w wr ∧ farB l k = true) (fun _ i _ => l.length - (intOf i).toNat)
  case atStart => exact ⟨0, Nat.zero_le _, rfl, Below.refl _ _, rfl⟩
  case round =>
    obtain ⟨k, hk, rfl, hB, hsm⟩ := hrel
    have HSM := Lib.hid hsm
    clear hsm
    by_cases hlt : k < l.length
    · have HAR := Lib.hid (HA.out.kept (hB.mono (Nat.le_refl _)))
      obtain ⟨g, o, c', ev, hc, hg, p1, p2⟩ := HAR.out.spot k hlt
      cases ev
      have hs := small_fx (pat l k)
      have hsu := farB_succ l k
      have hno := fun h => farB_no (l := l) (k := l.length) hlt h
      obtain ⟨⟨q1, q2⟩, hq⟩ : ∃ q, pat l k = q := ⟨_, rfl⟩
      rw [hq] at hs p1 p2 hsu hno
      rw [HSM.out, hs] at hsu
      rw [hs] at hno
      simp only at hs p1 p2 hsu hno
      have hfix := fun w => fix_any q1 q2 w
      have C0 := Cell2.new wr (.int .i64 q1) (.int .i64 q2) 23
      have hB1 := hB.alloc hB.size (.cells #[.int .i64 q1, .int .i64 q2] 23)
      have hcase : (fx q1 = q1 ∧ fx q2 = q2) ∨ (fx q1 == q1) = false ∨ (fx q1 = q1 ∧ (fx q2 == q2) = false) := by
        by_cases h1 : fx q1 = q1 <;> by_cases h2 : fx q2 = q2 <;> simp [h1, h2]
      have HF := Lib.hid hfix
      have HS := Lib.hid hsu
      have HN := Lib.hid hno
      clear hfix hs hq hsu hno
      have j1 : (k : Int) < (l.length : Int) := by omega
      rcases hcase with ⟨h1, h2⟩ | h1 | ⟨h1, h2⟩
      · rw [h1, h2] at HF
        go_wp2
        refine wp_region_calm0 (by kernel_rfl) (by kernel_rfl) fun M => ?_
        have e0 := fun n : In M.w => n.cell (M.cell C0.c0)
        have e1 := fun n : In M.w => n.cell (M.cell C0.c1)
        repeat (go_big_quiet_step ((go_at_call 38; with_reducible exact In.call (HF.out _))))
        refine wpQuiet_nil ?_
        intro w1 hb
        replace hB1 := hB1.trans (hb.mono hB1.size)
        clear e0 e1 M C0 hb p1 p2 hB
        go_wp2
        go_roundw
        case rel => exact ⟨k + 1, by omega, by go_num, hB1, by rw [HS.out]; simp [h1, h2]⟩
        case measure => simp [intOf]; omega
      · have hno := HN.out (by rw [decide_eq_false (by simpa using h1)]; rfl)
        have HNO := Lib.hid hno
        clear hno
        go_wp2
        refine wp_region_calm0 (by kernel_rfl) (by kernel_rfl) fun M => ?_
        have e0 := fun n : In M.w => n.cell (M.cell C0.c0)
        have e1 := fun n : In M.w => n.cell (M.cell C0.c1)
        repeat (go_big_quiet_step ((go_at_call 38; with_reducible exact In.call (HF.out _))))
        refine wpQuiet_nil ?_
        intro w1 hb
        replace hB1 := hB1.trans (hb.mono hB1.size)
        clear e0 e1 M C0 hb p1 p2 hB
        go_wp2
        go_ret
        exact ⟨ret_b HNO.out.symm, hB1⟩
      · have hno := HN.out (by rw [show decide (fx q2 = q2) = false from decide_eq_false (by simpa using h2), Bool.and_false])
        have HNO := Lib.hid hno
        clear hno
        rw [h1] at HF
        go_wp2
        refine wp_region_calm0 (by kernel_rfl) (by kernel_rfl) fun M => ?_
        have e0 := fun n : In M.w => n.cell (M.cell C0.c0)
        have e1 := fun n : In M.w => n.cell (M.cell C0.c1)
        repeat (go_big_quiet_step ((go_at_call 38; with_reducible exact In.call (HF.out _))))
        refine wpQuiet_nil ?_
        intro w1 hb
        replace hB1 := hB1.trans (hb.mono hB1.size)
        clear e0 e1 M C0 hb p1 p2 hB
        go_wp2
        go_ret
        exact ⟨ret_b HNO.out.symm, hB1⟩
    · have hk2 : k = l.length := by omega
      rw [hk2] at HSM
      clear hk hk2
      go_wp2
      go_ret
      exact ⟨ret_b HSM.out.symm, hB⟩
end Go.Proofs.Ythndmoipemnllaa
