/- The walks of package walk: who walks, one move further; where a walk ends. -/
import Derived.Test.YtibeljppjaenbaaWalkA
import Derived.Test.YtibeljppjaenbaaMotionB
import Derived.Test.YtibeljppjaenbaaWalkEnds
namespace Go.Proofs.Ytibeljppjaenbaa
open Go.RowKit
attribute [local go_sem] store_complex

/-- who walks: where it stands, and the quarter that it looks to -/
structure Wk (v : Value) (q : Nat) (x y : Int) : Prop where
  is : ∃ a b c d, v = .agg #[.complex .f64 a b, .complex .f64 c d] ∧ Fl a x ∧ Fl b y ∧ Fl c (uq q) ∧ Fl d (vq q)
theorem wk_first : Wk (.agg #[.complex .f64 0 0, .complex .f64 4607182418800017408 0]) 0 0 0 := ⟨_, _, _, _, rfl, zero_whole, zero_whole, one_whole, zero_whole⟩
theorem rot_on (q : Nat) (s : Int) : rot q s 0 = (s * uq q, s * vq q) := by
  have h := rot_scale q s 1 0
  rw [Int.mul_one, Int.mul_zero] at h
  exact h
theorem quarter_word (r : Nat) (hr : r < 4) : ∃ a b, #[Value.complex .f64 4607182418800017408 0, .complex .f64 0 4607182418800017408, .complex .f64 13830554455654793216 0, .complex .f64 0 13830554455654793216][r]? = some (.complex .f64 a b) ∧ Fl a (uq r) ∧ Fl b (vq r) := by
  have h : r = 0 ∨ r = 1 ∨ r = 2 ∨ r = 3 := by omega
  rcases h with rfl | rfl | rfl | rfl
  · exact ⟨_, _, rfl, one_whole, zero_whole⟩
  · exact ⟨_, _, rfl, zero_whole, one_whole⟩
  · exact ⟨_, _, rfl, negone_whole, zero_whole⟩
  · exact ⟨_, _, rfl, zero_whole, negone_whole⟩
theorem run_quarter (r : Nat) (hr : r < 4) (a b : Nat) (h : #[Value.complex .f64 4607182418800017408 0, .complex .f64 0 4607182418800017408, .complex .f64 13830554455654793216 0, .complex .f64 0 13830554455654793216][r]? = some (.complex .f64 a b)) (w : World) :
    (Instr.index 75 (.agg #[.complex .f64 4607182418800017408 0, .complex .f64 0 4607182418800017408, .complex .f64 13830554455654793216 0, .complex .f64 0 13830554455654793216]) (.int .i64 r)).run Try.prog w = .ok (.complex .f64 a b) w := by
  have h' : r = 0 ∨ r = 1 ∨ r = 2 ∨ r = 3 := by omega
  rcases h' with rfl | rfl | rfl | rfl
  all_goals
    simp at h
    obtain ⟨rfl, rfl⟩ := h
    simp [Instr.index, run_underlying Try.underlying75, asIntOf, go_sem]
theorem sum_bd53 {x p : Int} (hx : x.natAbs ≤ 1000000000000) (hp : p.natAbs ≤ 1048576) : (x + p).natAbs < 2 ^ 53 := by omega

set_option maxHeartbeats 1000000 in
theorem wbehind_any {v : Value} {q r : Nat} {x y s : Int} (h : Wk v q x y) (hr : r < 4) (hx : x.natAbs ≤ 1000000000000) (hy : y.natAbs ≤ 1000000000000) (hs : s.natAbs ≤ 1048576) :
    ∃ v', Wk v' (q + r) (x + s * uq q) (y + s * vq q) ∧ ∀ w, Calls Try.prog 40 #[v, .agg #[.int .i64 s, .int .i64 r]] w fun e w' => e = .returned v' ∧ Below w.heap.size w w' := by
  obtain ⟨a, b, c, d, rfl, ha, hb, hc, hd⟩ := h.is
  obtain ⟨r1, f1, f2⟩ := tMul_run (B := 1048576) q hc hd (fl_small hs) zero_whole hs (by decide) (by decide)
  rw [rot_on] at f1 f2
  obtain ⟨p1, p2⟩ := unit_bd q hs
  obtain ⟨r2, f3, f4⟩ := cSum_whole 64 ha hb f1 f2 rfl (sum_bd53 hx p1) (sum_bd53 hy p2)
  obtain ⟨t, u, htu, ht, hu⟩ := quarter_word r hr
  obtain ⟨r3, f5, f6⟩ := tMul_run (B := 1) q hc hd ht hu (unit_abs r).1 (unit_abs r).2 (by omega)
  have e := rot_add q r 1 0
  refine ⟨.agg #[.complex .f64 (fbits .add a (mulRe c d (fl s) 0)) (fbits .add b (mulIm c d (fl s) 0)), .complex .f64 (mulRe c d t u) (mulIm c d t u)],
    ⟨_, _, _, _, rfl, f3, f4, by rw [show uq (q + r) = (rot q (uq r) (vq r)).1 from (congrArg Prod.fst e).symm]; exact f5, by rw [show vq (q + r) = (rot q (uq r) (vq r)).2 from (congrArg Prod.snd e).symm]; exact f6⟩, ?_⟩
  clear f1 f2 f3 f4 f5 f6 ha hb hc hd ht hu e h p1 p2 hx hy
  intro w
  generalize hm1 : mulRe c d t u = m1 at r3 ⊢
  generalize hm2 : mulIm c d t u = m2 at r3 ⊢
  generalize hm3 : mulRe c d (fl s) 0 = m3 at r1 r2 ⊢
  generalize hm4 : mulIm c d (fl s) 0 = m4 at r1 r2 ⊢
  generalize hm5 : fbits .add a m3 = m5 at r2 ⊢
  generalize hm6 : fbits .add b m4 = m6 at r2 ⊢
  clear hm1 hm2 hm3 hm4 hm5 hm6
  obtain ⟨S, hS⟩ : ∃ S, floatOfInt .f64 s = S := ⟨_, rfl⟩
  rw [show fl s = S from hS] at r1
  have hix := run_quarter r hr t u htu
  go_enter Try.func40, Try.ntmps40
  go_wp2
  refine wp_region_calmT 18 (by kernel_rfl) (by simp) (by kernel_rfl) fun M => ?_
  simp only [List.take_succ_cons, List.take_zero, List.drop_succ_cons, List.drop_zero]
  have hc0 : ∀ n' : In M.w, n'.w.cell? ⟨w.heap.size, 0, none⟩ = some (.complex .f64 a b) := fun n' => n'.cell (M.cell (by go_simp))
  have hc1 : ∀ n' : In M.w, n'.w.cell? ⟨w.heap.size, 1, none⟩ = some (.complex .f64 c d) := fun n' => n'.cell (M.cell (by go_simp))
  have hc2 : ∀ n' : In M.w, n'.w.cell? ⟨w.heap.size + 1, 0, none⟩ = some (.int .i64 s) := fun n' => n'.cell (M.cell (by go_simp))
  have hc3 : ∀ n' : In M.w, n'.w.cell? ⟨w.heap.size + 1, 1, none⟩ = some (.int .i64 r) := fun n' => n'.cell (M.cell (by go_simp))
  repeat (go_big_quiet_step ((go_at_call 42; with_reducible exact In.call (wquarters_any _))))
  refine wpQuiet_nil ?_
  intro w1 hb
  obtain ⟨g0, g1, z0, z1⟩ := (Cell2.new ((w.alloc (.cells #[.complex .f64 a b, .complex .f64 c d] 66)).alloc (.cells #[.int .i64 s, .int .i64 r] 73)) (.complex .f64 0 0) (.complex .f64 0 0) 66).kept hb
  have hB : Below w.heap.size w w1 := ((((Below.refl _ _).alloc (Nat.le_refl _) _).alloc (by simp) _).alloc (by simp; omega) _).trans (hb.mono (by simp; omega))
  clear hb hc0 hc1 hc2 hc3
  simp only [World.size_alloc] at g0 g1 z0 z1
  go_wp2
  refine bodyPost_ret (v := .agg #[.complex .f64 m5 m6, .complex .f64 m1 m2]) ?_ rfl ⟨rfl, (hB.setCell (by simp; omega) _).setCell (by simp; omega) _⟩
  simp [results, Try.results40, go_sem, g0, g1, z0, z1]
end Go.Proofs.Ytibeljppjaenbaa
