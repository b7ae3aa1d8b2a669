/- The walk of gauss.Turn. -/
import Derived.Test.YthndmoipemnllaaGaussB
namespace Go.Proofs.Ythndmoipemnllaa
open Go.RowKit

theorem and3 (n : Int) : bits .and .i64 n 3 = n % 4 := by
  have h : (BitVec.ofInt 64 n &&& BitVec.ofInt 64 3).toNat = (n % 4).toNat := by
    rw [BitVec.toNat_and, BitVec.toNat_ofInt, BitVec.toNat_ofInt]
    have e : ((3 : Int) % ((2 ^ 64 : Nat) : Int)).toNat = 2 ^ 2 - 1 := by decide
    rw [e, Nat.and_two_pow_sub_one_eq_mod]
    omega
  show IntKind.i64.wrap _ = _
  have h2 : ((BitVec.ofInt IntKind.i64.bits n &&& BitVec.ofInt IntKind.i64.bits 3).toNat : Int) = n % 4 := by
    have := congrArg (fun k : Nat => (k : Int)) h
    have p := Int.emod_nonneg n (show (4 : Int) ≠ 0 by omega)
    simp only [Int.toNat_of_nonneg p] at this
    exact this
  have p := Int.emod_nonneg n (show (4 : Int) ≠ 0 by omega)
  have q := Int.emod_lt_of_pos n (show (0 : Int) < 4 by omega)
  exact (congrArg _ h2).trans (IntWalk.i64_in _ (by omega))

/-- quarters to the left -/
def rot : Nat → Int → Int → Int × Int
  | 0, x, y => (x, y)
  | j + 1, x, y => (-(rot j x y).2, (rot j x y).1)
theorem rot_abs (j : Nat) (x y : Int) (B : Nat) (hx : x.natAbs ≤ B) (hy : y.natAbs ≤ B) : (rot j x y).1.natAbs ≤ B ∧ (rot j x y).2.natAbs ≤ B := by
  induction j with
  | zero => exact ⟨hx, hy⟩
  | succ j ih => exact ⟨by show (-(rot j x y).2).natAbs ≤ B; rw [Int.natAbs_neg]; exact ih.2, ih.1⟩

theorem turn_step {a b : Nat} {X Y : Int} (ha : Fl a X) (hb : Fl b Y) (hx : X.natAbs ≤ 1048576) (hy : Y.natAbs ≤ 1048576) :
    (∀ w, (binOp .mul 41 (.complex .f64 a b) (.complex .f64 0 4607182418800017408)).run Try.prog w = .ok (.complex .f64 (mulRe a b 0 4607182418800017408) (mulIm a b 0 4607182418800017408)) w) ∧
    Fl (mulRe a b 0 4607182418800017408) (-Y) ∧ Fl (mulIm a b 0 4607182418800017408) X := by
  obtain ⟨h1, h2, h3⟩ := cMul_run 41 ha hb zero_whole one_whole (by simp) (by simp; omega) (by simp; omega) (by simp)
  refine ⟨h1, ?_, ?_⟩
  · simpa using h2
  · simpa using h3

theorem turn_any (x y n : Int) (w : World) : Calls Try.prog 45 #[.agg #[.int .i64 x, .int .i64 y], .int .i64 n] w fun e w' =>
    e = .returned (.agg #[.int .i64 (rot (n % 4).toNat (fx x) (fx y)).1, .int .i64 (rot (n % 4).toNat (fx x) (fx y)).2]) ∧ Below w.heap.size w w' := by
  have ha3 := and3 n
  obtain ⟨q, hq⟩ : ∃ q : Nat, n % 4 = q := ⟨(n % 4).toNat, by omega⟩
  rw [hq] at ha3
  have hq4 : q < 4 := by omega
  have hqn : (n % 4).toNat = q := by omega
  rw [hqn]
  clear hq hqn
  have hC := Cell2.new (w.alloc (.cells #[.int .i64 x, .int .i64 y] 23)) (.int .i64 0) (.int .i64 0) 23
  simp only [World.size_alloc] at hC
  have hB : Below w.heap.size w ((w.alloc (.cells #[.int .i64 x, .int .i64 y] 23)).alloc (.cells #[.int .i64 0, .int .i64 0] 23)) := ((Below.refl _ _).alloc (Nat.le_refl _) _).alloc (by simp) _
  go_enter Try.func45, Try.ntmps45
  go_wp2_with fail
  refine wp_scope_goto 0 (fun k a' w' => ∃ (j : Nat) (a b : Nat) (c : Int), k = q - j ∧ c = q - j ∧ j ≤ q ∧ Fl a (rot j (fx x) (fx y)).1 ∧ Fl b (rot j (fx x) (fx y)).2 ∧ Below w.heap.size w w' ∧ Cell2 w' (w.heap.size + 1) (.int .i64 0) (.int .i64 0) ∧ ∃ u0 u1 u3 u7 u8 u9 u10 u11 u12 u13 u14 u15 u16 u17 u18, a' = { tmps := #[u0, u1, .pointer (some ⟨w.heap.size, 0, none⟩), u3, .pointer (some ⟨w.heap.size + 1, 0, none⟩), .complex .f64 a b, .int .i64 c, u7, u8, u9, u10, u11, u12, u13, u14, u15, u16, u17, u18], defers := [] }) rfl rfl ?_ ?_
  · clear hC hB
    rintro k a' w' ⟨j, a, b, c, rfl, hc, hj, ha, hb, hB, hC, u0, u1, u3, u7, u8, u9, u10, u11, u12, u13, u14, u15, u16, u17, u18, rfl⟩ K hK
    obtain ⟨bx, by'⟩ := rot_abs j (fx x) (fx y) 1048576 (fx_abs x) (fx_abs y)
    by_cases hlt : j < q
    · obtain ⟨hrun, h2, h3⟩ := turn_step ha hb bx by'
      have H2 := Lib.hid h2
      have H3 := Lib.hid h3
      have HC := Lib.hid hc
      have hc0 : 0 < c := by omega
      have hc4 : c < 4 := by omega
      clear h2 h3 ha hb bx by' hc
      go_wp2
      go_step3
      refine ⟨rfl, hK (q - (j + 1)) _ _ (by omega) ⟨j + 1, _, _, _, rfl, by have := HC.out; omega, by omega, H2.out, H3.out, hB, hC, _, _, _, _, _, _, _, _, _, _, _, _, _, _, _,  rfl⟩⟩
    · have e : j = q := by omega
      subst e
      have hc0 : ¬ 0 < c := by omega
      clear hc
      go_wp2_with (go_at_call 49; refine (point_any _ _ _ _ ha hb (by omega) (by omega) _).mono ?_; rintro e w3 ⟨rfl, hb⟩; replace hB := hB.trans (hb.mono hB.size); obtain ⟨g0, g1, z0, z1⟩ := hC.kept hb; clear hb)
      simp only [Exit.jump]
      refine bodyPost_ret (v := .agg #[.int .i64 (rot j (fx x) (fx y)).1, .int .i64 (rot j (fx x) (fx y)).2]) ?_ rfl ⟨rfl, (hB.setCell (by simp) _).setCell (by simp) _⟩
      simp [results, Try.results45, go_sem, g0, g1, z0, z1]
  · intro K hpass
    go_wp2_with (go_at_call 48; refine (number_any _ _ _).mono ?_; rintro e w1 ⟨rfl, hb⟩; replace hB := hB.trans (hb.mono hB.size); replace hC := hC.kept hb; clear hb)
    go_step3
    rename_i hback
    refine hback _ _ (hpass (q - 0) _ _ ⟨0, _, _, _, rfl, by omega, by omega, fl_fx x, fl_fx y, hB, hC, _, _, _, _, _, _, _, _, _, _, _, _, _, _, _,  rfl⟩)
end Go.Proofs.Ythndmoipemnllaa
