/- The walks of the laws of layer 3. -/
import Derived.Test.YtnhebjdimhkbmaaGaussP
namespace Go.Proofs.Ytnhebjdimhkbmaa
open Go.RowKit

theorem text_34 : (⟨(ptx (-3) 4).toArray⟩ : ByteArray) = ⟨#[45, 51, 44, 52]⟩ := by decide +kernel

set_option maxHeartbeats 1000000 in
theorem galive_any (w : World) : Calls Try.prog 18 #[] w fun e w' => e = .returned (.bool true) ∧ Below w.heap.size w w' := by
  have f0 : fx 0 = 0 := by decide
  have f1 : fx 1 = 1 := by decide
  have f3 : fx 3 = 3 := by decide
  have f4 : fx 4 = 4 := by decide
  have ht := text_34
  have t1 := fun w => turn_any 1 0 1 w
  simp only [f0, f1, show ((1 : Int) % 4).toNat = 1 from rfl, rot] at t1
  have m1 := fun w => mul_any 0 1 0 1 w
  simp only [f0, f1] at m1
  have n1 := fun w => norm_any 3 4 w
  simp only [f3, f4] at n1
  have x1 := fun w => text_any (-3) 4 w (by omega) (by omega) (by omega) (by omega)
  simp only [ht] at x1
  have T1 := Lib.hid t1
  have M1 := Lib.hid m1
  have N1 := Lib.hid n1
  have X1 := Lib.hid x1
  clear f0 f1 f3 f4 ht t1 m1 n1 x1
  have hB : Below w.heap.size w (w.alloc (.cells #[.int .i64 0, .int .i64 1] 23)) := (Below.refl _ _).alloc (Nat.le_refl _) _
  go_enter Try.func18, Try.ntmps18
  go_wp2
  refine wp_region_calm0 (by kernel_rfl) (by kernel_rfl) fun M => ?_
  have hc0 : ∀ n : In M.w, n.w.cell? ⟨w.heap.size, 0, none⟩ = some (.int .i64 0) := fun n => n.cell (M.cell (by go_simp))
  have hc1 : ∀ n : In M.w, n.w.cell? ⟨w.heap.size, 1, none⟩ = some (.int .i64 1) := fun n => n.cell (M.cell (by go_simp))
  repeat (go_big_quiet_step (first
    | (go_at_call 14; exact In.call (M1.out _))
    | (go_at_call 19; exact In.call (T1.out _))
    | (go_at_call 29; exact In.call (X1.out _))
    | (go_at_call 21; exact In.call (N1.out _))))
  refine wpQuiet_nil ?_
  intro w2 hb
  replace hB := hB.trans (hb.mono hB.size)
  clear hb hc0 hc1 M
  go_wp2
  go_ret
  exact ⟨rfl, hB⟩

set_option maxHeartbeats 4000000 in
set_option maxRecDepth 100000 in
theorem gaussOps_any (p1 p2 q1 q2 : Int) (w : World) :
    Calls Try.prog 3 #[.agg #[.int .i64 p1, .int .i64 p2], .agg #[.int .i64 q1, .int .i64 q2]] w fun e w' => e = .returned (.bool true) ∧ Below w.heap.size w w' := by
  have hB : Below w.heap.size w ((w.alloc (.cells #[.int .i64 p1, .int .i64 p2] 23)).alloc (.cells #[.int .i64 q1, .int .i64 q2] 23)) := ((Below.refl _ _).alloc (Nat.le_refl _) _).alloc (by simp) _
  go_enter Try.func3, Try.ntmps3
  go_wp2
  refine wp_region_calm0 (by kernel_rfl) (by kernel_rfl) fun M => ?_
  have hc0 : ∀ n : In M.w, n.w.cell? ⟨w.heap.size, 0, none⟩ = some (.int .i64 p1) := fun n => n.cell (M.cell (by go_simp))
  have hd0 : ∀ n : In M.w, n.w.cell? ⟨w.heap.size, 1, none⟩ = some (.int .i64 p2) := fun n => n.cell (M.cell (by go_simp))
  have hc1 : ∀ n : In M.w, n.w.cell? ⟨w.heap.size + 1, 0, none⟩ = some (.int .i64 q1) := fun n => n.cell (M.cell (by go_simp))
  have hd1 : ∀ n : In M.w, n.w.cell? ⟨w.heap.size + 1, 1, none⟩ = some (.int .i64 q2) := fun n => n.cell (M.cell (by go_simp))
  repeat (go_big_quiet_step (first
    | (go_at_call 8; exact In.call (fix_any _ _ _))
    | (go_at_call 9; exact In.call (refFix_any _ _ _))
    | (go_at_call 10; exact In.call (add_any _ _ _ _ _))
    | (go_at_call 11; exact In.call (refAdd_any _ _ _ _ _))
    | (go_at_call 12; exact In.call (sub_any _ _ _ _ _))
    | (go_at_call 13; exact In.call (refSub_any _ _ _ _ _))
    | (go_at_call 14; exact In.call (mul_any _ _ _ _ _))
    | (go_at_call 15; exact In.call (refMul_any _ _ _ _ _))
    | (go_at_call 16; exact In.call (conj_any _ _ _))
    | (go_at_call 17; exact In.call (refConj_any _ _ _))
    | (go_at_call 18; exact In.call (galive_any _))))
  refine wpQuiet_nil ?_
  intro w2 hb
  replace hB := hB.trans (hb.mono hB.size)
  clear hb hc0 hc1 hd0 hd1 M
  go_wp2
  go_ret
  exact ⟨rfl, hB⟩

set_option maxHeartbeats 4000000 in
set_option maxRecDepth 100000 in
theorem gaussSizes_any (p1 p2 n : Int) (w : World) :
    Calls Try.prog 4 #[.agg #[.int .i64 p1, .int .i64 p2], .int .i64 n] w fun e w' => e = .returned (.bool true) ∧ Below w.heap.size w w' := by
  have hB : Below w.heap.size w (w.alloc (.cells #[.int .i64 p1, .int .i64 p2] 23)) := (Below.refl _ _).alloc (Nat.le_refl _) _
  go_enter Try.func4, Try.ntmps4
  go_wp2
  refine wp_region_calm0 (by kernel_rfl) (by kernel_rfl) fun M => ?_
  have hc0 : ∀ n : In M.w, n.w.cell? ⟨w.heap.size, 0, none⟩ = some (.int .i64 p1) := fun n => n.cell (M.cell (by go_simp))
  have hd0 : ∀ n : In M.w, n.w.cell? ⟨w.heap.size, 1, none⟩ = some (.int .i64 p2) := fun n => n.cell (M.cell (by go_simp))
  repeat (go_big_quiet_step (first
    | (go_at_call 19; exact In.call (turn_any _ _ _ _))
    | (go_at_call 20; exact In.call (refTurn_any _ _ _ _))
    | (go_at_call 21; exact In.call (norm_any _ _ _))
    | (go_at_call 22; exact In.call (refNorm_any _ _ _))
    | (go_at_call 23; exact In.call (steps_any _ _ _))
    | (go_at_call 24; exact In.call (refSteps_any _ _ _))
    | (go_at_call 25; exact In.call (big_any _ _ _))
    | (go_at_call 26; exact In.call (refBig_any _ _ _))
    | (go_at_call 18; exact In.call (galive_any _))))
  refine wpQuiet_nil ?_
  intro w2 hb
  replace hB := hB.trans (hb.mono hB.size)
  clear hb hc0 hd0 M
  go_wp2
  go_ret
  exact ⟨rfl, hB⟩
end Go.Proofs.Ytnhebjdimhkbmaa
