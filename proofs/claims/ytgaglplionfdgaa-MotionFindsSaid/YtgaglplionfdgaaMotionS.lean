/- The walk of motion.Still. -/
import Derived.Test.YtgaglplionfdgaaMotionR
import Derived.Test.YtgaglplionfdgaaFrac
namespace Go.Proofs.Ytgaglplionfdgaa
open Go.RowKit
attribute [local go_sem] store_complex

theorem mpoint_k (p q : Nat) (x y : Int) (k1 : ∀ w, (convert 55 3 (.float .f64 p)).run Try.prog w = .ok (.int .i64 x) w) (k2 : ∀ w, (convert 55 3 (.float .f64 q)).run Try.prog w = .ok (.int .i64 y) w) (w : World) :
    Calls Try.prog 30 #[.complex .f64 p q] w fun e w' => e = .returned (.agg #[.int .i64 x, .int .i64 y]) ∧ Below w.heap.size w w' := by
  go_enter Try.func30, Try.ntmps30
  go_wp2
  refine bodyPost_ret (v := .agg #[.int .i64 x, .int .i64 y]) ?_ rfl ⟨rfl, (Below.refl _ _).alloc (Nat.le_refl _) _⟩
  simp [results, Try.results30, go_sem]

theorem conv_frac {p : Nat} {n : Int} (h : Fh 2 p n) (hn : n.natAbs < 2 ^ 53) : ∀ w, (convert 55 3 (.float .f64 p)).run Try.prog w = .ok (.int .i64 (n.tdiv 4)) w := by
  have hb : (n.tdiv 4).natAbs ≤ n.natAbs := by rw [Int.natAbs_tdiv]; exact Nat.div_le_self _ _
  have e : n.tdiv (2 ^ 2) = n.tdiv 4 := rfl
  exact fun w => run_convert_float_int w _ _ _ _ _ _ (by rw [Try.underlying55]; rfl) Try.underlying3 (by rw [← e]; exact toInt_frac h (by rw [e]; omega) (by rw [e]; omega))

/-- the words of a product with a share and no imaginary part -/
theorem share_mul {m1 m2 s : Nat} {X Y S : Int} (h1 : Fl m1 X) (h2 : Fl m2 Y) (hs : Fh 2 s S) (hS : S.natAbs ≤ 4) (hX : X.natAbs < 2 ^ 40) (hY : Y.natAbs < 2 ^ 40) :
    ∃ s1 s2, (∀ w, (binOp .mul 44 (.complex .f64 m1 m2) (.complex .f64 s 0)).run Try.prog w = .ok (.complex .f64 s1 s2) w) ∧ Fh 2 s1 (X * S) ∧ Fh 2 s2 (Y * S) := by
  have b1 := mul_bd (show X.natAbs ≤ 2 ^ 40 by omega) hS
  have b2 := mul_bd (show Y.natAbs ≤ 2 ^ 40 by omega) hS
  obtain ⟨e1, f1⟩ := mul_frac (D := 2) (by omega) h1 hs (by omega)
  obtain ⟨e2, f2⟩ := mul_frac (D := 2) (by omega) h2 hs (by omega)
  obtain ⟨e3, f3⟩ := mul_whole h1 zero_whole (by simp)
  obtain ⟨e4, f4⟩ := mul_whole h2 zero_whole (by simp)
  rw [Int.mul_zero] at f3 f4
  have g3 := frac_of_whole 2 f3
  have g4 := frac_of_whole 2 f4
  rw [Int.zero_mul] at g3 g4
  obtain ⟨e5, f5⟩ := sub_frac (by omega) f1 g4 (by omega)
  obtain ⟨e6, f6⟩ := add_frac (by omega) g3 f2 (by omega)
  rw [Int.sub_zero] at f5
  rw [Int.zero_add] at f6
  exact ⟨_, _, fun w => run_complex_mul w _ _ _ _ _ _ _ (by unfold cMulBits; rw [e1, e4, e3, e2]; simp only [Option.bind_some]; rw [e5, e6]; rfl), f5, f6⟩

/-- what the turn fixes of Still's numbers -/
structure StW (q : Nat) (A1 A2 N1 : Nat) (nr im sh : Nat) (a b S : Int) : Prop where
  sub1 : floatBits .sub .f64 4607182418800017408 (fl (uq q)) = some A1
  sub2 : floatBits .sub .f64 0 (fl (vq q)) = some A2
  neg : Op.negFloat .f64 A2 = N1
  mul : cMulBits A1 A2 A1 N1 = some (nr, im)
  quo : floatBits .quo .f64 4607182418800017408 nr = some sh
  fa : Fl A1 a
  fb : Fl N1 b
  fs : Fh 2 sh S
  ba : a.natAbs ≤ 2
  bb : b.natAbs ≤ 1
  bs : S.natAbs ≤ 4
  no : (FloatKind.f64.format.order (fl (uq q)) 4607182418800017408 == some .eq) = false
theorem two_whole : Fl 4611686018427387904 2 := ⟨false, 4503599627370496, -51, by decide +kernel, 51, by decide, by decide +kernel⟩
theorem negzero_whole : Fl 9223372036854775808 0 := ⟨true, 0, -1074, by decide +kernel, 1074, by decide, by decide +kernel⟩
theorem half_frac : Fh 2 4602678819172646912 2 := ⟨false, 4503599627370496, -53, by decide +kernel, 51, by decide, by decide +kernel⟩
theorem quarter_frac : Fh 2 4598175219545276416 1 := ⟨false, 4503599627370496, -54, by decide +kernel, 52, by decide, by decide +kernel⟩
theorem stw1 : ∃ A1 A2 N1 nr im sh, StW 1 A1 A2 N1 nr im sh 1 1 2 :=
  ⟨4607182418800017408, 13830554455654793216, 4607182418800017408, 4611686018427387904, 0, 4602678819172646912, by decide +kernel, by decide +kernel, by decide +kernel, by decide +kernel, by decide +kernel, one_whole, one_whole, half_frac, by decide, by decide, by decide, by decide +kernel⟩
theorem stw2 : ∃ A1 A2 N1 nr im sh, StW 2 A1 A2 N1 nr im sh 2 0 1 :=
  ⟨4611686018427387904, 0, 9223372036854775808, 4616189618054758400, 0, 4598175219545276416, by decide +kernel, by decide +kernel, by decide +kernel, by decide +kernel, by decide +kernel, two_whole, negzero_whole, quarter_frac, by decide, by decide, by decide, by decide +kernel⟩
theorem stw3 : ∃ A1 A2 N1 nr im sh, StW 3 A1 A2 N1 nr im sh 1 (-1) 2 :=
  ⟨4607182418800017408, 4607182418800017408, 13830554455654793216, 4611686018427387904, 0, 4602678819172646912, by decide +kernel, by decide +kernel, by decide +kernel, by decide +kernel, by decide +kernel, one_whole, negone_whole, half_frac, by decide, by decide, by decide, by decide +kernel⟩

/-- twice two times the numbers of the point that may stay: by, times the mirrored rest, times the share -/
def stx (q : Nat) (x y : Int) : Int := match q with | 1 => ((x - y) * 2).tdiv 4 | 2 => (2 * x).tdiv 4 | _ => ((x + y) * 2).tdiv 4
def sty (q : Nat) (x y : Int) : Int := match q with | 1 => ((x + y) * 2).tdiv 4 | 2 => (2 * y).tdiv 4 | _ => ((y - x) * 2).tdiv 4
theorem stw_any {q : Nat} (h : q < 4) (h0 : q ≠ 0) : ∃ A1 A2 N1 nr im sh a b S, StW q A1 A2 N1 nr im sh a b S ∧ ∀ x y : Int, ((x * a - y * b) * S).tdiv 4 = stx q x y ∧ ((x * b + y * a) * S).tdiv 4 = sty q x y := by
  have : q = 1 ∨ q = 2 ∨ q = 3 := by omega
  rcases this with rfl | rfl | rfl
  · obtain ⟨A1, A2, N1, nr, im, sh, h⟩ := stw1
    exact ⟨_, _, _, _, _, _, _, _, _, h, fun x y => ⟨by unfold stx; simp, by unfold sty; simp⟩⟩
  · obtain ⟨A1, A2, N1, nr, im, sh, h⟩ := stw2
    exact ⟨_, _, _, _, _, _, _, _, _, h, fun x y => ⟨by unfold stx; simp [Int.mul_comm], by unfold sty; simp [Int.mul_comm]⟩⟩
  · obtain ⟨A1, A2, N1, nr, im, sh, h⟩ := stw3
    exact ⟨_, _, _, _, _, _, _, _, _, h, fun x y => ⟨by unfold stx; simp [Int.sub_neg], by unfold sty; simp [Int.add_comm, Int.sub_eq_add_neg]⟩⟩

def dox (n x y p1 p2 : Int) : Int := (rot (qr n) (fx p1) (fx p2)).1 + fx x
def doy (n x y p1 p2 : Int) : Int := (rot (qr n) (fx p1) (fx p2)).2 + fx y
/-- does just one point stay -/
def sb (n x y : Int) : Bool := decide (qr n ≠ 0 ∧ dox n x y (stx (qr n) (fx x) (fx y)) (sty (qr n) (fx x) (fx y)) = stx (qr n) (fx x) (fx y) ∧ doy n x y (stx (qr n) (fx x) (fx y)) (sty (qr n) (fx x) (fx y)) = sty (qr n) (fx x) (fx y))
def sx (n x y : Int) : Int := if sb n x y then stx (qr n) (fx x) (fx y) else 0
def sy (n x y : Int) : Int := if sb n x y then sty (qr n) (fx x) (fx y) else 0

set_option maxHeartbeats 1000000 in
theorem mstill_zero (n x y : Int) (h0 : qr n = 0) (w : World) : Calls Try.prog 24 #[.agg #[.int .i64 n, .int .i64 x, .int .i64 y]] w fun e w' => e = .returned (.tuple #[.agg #[.int .i64 0, .int .i64 0], .bool false]) ∧ Below w.heap.size w w' := by
  obtain ⟨v, hv, h1⟩ := reckon_rk n x y
  obtain ⟨a, b, c, d, rfl, ha, hb, hc, hd⟩ := hv.is
  rw [h0] at ha hb
  have o1 := ord_eq ha one_whole
  have o2 := ord_eq hb zero_whole
  rw [show decide (uq 0 = 1) = true by decide] at o1
  rw [show decide (vq 0 = 0) = true by decide] at o2
  clear ha hb hc hd hv
  have H1 := Lib.hid h1
  clear h1
  have hB : Below w.heap.size w ((w.alloc (.cells #[.int .i64 n, .int .i64 x, .int .i64 y] 25)).alloc (.cells #[.int .i64 0, .int .i64 0] 23)) := ((Below.refl _ _).alloc (Nat.le_refl _) _).alloc (by simp) _
  have C := Cell2.new (w.alloc (.cells #[.int .i64 n, .int .i64 x, .int .i64 y] 25)) (.int .i64 0) (.int .i64 0) 23
  simp only [World.size_alloc] at C
  go_enter Try.func24, Try.ntmps24
  go_wp2_with (go_at_call 27; refine (H1.out _).mono ?_; rintro e w1 ⟨rfl, hb⟩; replace hB := hB.trans (hb.mono hB.size); replace hB := hB.alloc hB.size (.cells #[.complex .f64 a b, .complex .f64 c d] 46); replace C := (C.kept hb).alloc (.cells #[.complex .f64 a b, .complex .f64 c d] 46); clear hb; obtain ⟨g0, g1, z0, z1⟩ := C)
  refine bodyPost_ret (v := .tuple #[.agg #[.int .i64 0, .int .i64 0], .bool false]) ?_ rfl ⟨rfl, (hB.setCell (by simp) _).setCell (by simp) _⟩
  simp [results, Try.results24, go_sem, g0, g1, z0, z1]

set_option maxHeartbeats 2000000 in
theorem mstill_turn (n x y : Int) (h0 : qr n ≠ 0) (w : World) : Calls Try.prog 24 #[.agg #[.int .i64 n, .int .i64 x, .int .i64 y]] w fun e w' => e = .returned (.tuple #[.agg #[.int .i64 (sx n x y), .int .i64 (sy n x y)], .bool (sb n x y)]) ∧ Below w.heap.size w w' := by
  obtain ⟨A1, A2, N1, nr, im, sh, a, b, S, hW, hS⟩ := stw_any (qr_lt n) h0
  have h1 := fun w => reckon_any n x y w
  have fc := fl_fx x
  have fd := fl_fx y
  have x1 := mul_bd (fx_abs x) hW.ba
  have x2 := mul_bd (fx_abs y) hW.bb
  have x3 := mul_bd (fx_abs x) hW.bb
  have x4 := mul_bd (fx_abs y) hW.ba
  obtain ⟨r2, f1, f2⟩ := cMul_run 44 fc fd hW.fa hW.fb (by omega) (by omega) (by omega) (by omega)
  have y1 : (fx x * a - fx y * b).natAbs < 2 ^ 40 := by omega
  have y2 : (fx x * b + fx y * a).natAbs < 2 ^ 40 := by omega
  clear x1 x2 x3 x4
  obtain ⟨s1, s2, r3, g1, g2⟩ := share_mul f1 f2 hW.fs hW.bs y1 y2
  have z1 := mul_bd (Nat.le_of_lt y1) hW.bs
  have z2 := mul_bd (Nat.le_of_lt y2) hW.bs
  have k1 := conv_frac g1 (by omega)
  have k2 := conv_frac g2 (by omega)
  rw [(hS _ _).1] at k1
  rw [(hS _ _).2] at k2
  obtain ⟨px, hpx⟩ : ∃ p, stx (qr n) (fx x) (fx y) = p := ⟨_, rfl⟩
  obtain ⟨py, hpy⟩ : ∃ p, sty (qr n) (fx x) (fx y) = p := ⟨_, rfl⟩
  rw [hpx] at k1
  rw [hpy] at k2
  have h2 := fun w => mpoint_k s1 s2 px py k1 k2 w
  have h3 := fun w => mdo_any n x y px py w
  have eb : sb n x y = decide (qr n ≠ 0 ∧ dox n x y px py = px ∧ doy n x y px py = py) := by rw [← hpx, ← hpy]; rfl
  change ∀ w, Calls _ _ _ w fun e w' => e = .returned (.agg #[.int .i64 (dox n x y px py), .int .i64 (doy n x y px py)]) ∧ Below w.heap.size w w' at h3
  have rs : ∀ w, (binOp .sub 44 (.complex .f64 4607182418800017408 0) (.complex .f64 (fl (uq (qr n))) (fl (vq (qr n))))).run Try.prog w = .ok (.complex .f64 A1 A2) w := fun w => run_complex_sum w .sub (by simp) _ .f64 _ _ _ _ _ _ (by unfold cSumBits; rw [hW.sub1, hW.sub2]; rfl)
  have hm := fun w => mmirrored_any A1 A2 w
  rw [hW.neg] at hm
  have r1 : ∀ w, (binOp .mul 44 (.complex .f64 A1 A2) (.complex .f64 A1 N1)).run Try.prog w = .ok (.complex .f64 nr im) w := fun w => run_complex_mul w _ _ _ _ _ _ _ hW.mul
  have rq : ∀ w, (binOp .quo 55 (.float .f64 4607182418800017408) (.float .f64 nr)).run Try.prog w = .ok (.float .f64 sh) w := fun w => run_float_arith w .quo _ .f64 _ _ _ hW.quo
  have o1 := hW.no
  clear k1 k2 g1 g2 y1 y2 z1 z2 f1 f2 fc fd hS hW
  have ex : sx n x y = if sb n x y then px else 0 := by unfold sx; rw [hpx]
  have ey : sy n x y = if sb n x y then py else 0 := by unfold sy; rw [hpy]
  rw [ex, ey, eb]
  clear ex ey eb hpx hpy
  generalize dox n x y px py = dx at h3 ⊢
  generalize doy n x y px py = dy at h3 ⊢
  generalize fl (uq (qr n)) = tu at *
  generalize fl (vq (qr n)) = tv at *
  generalize fl (fx x) = c at *
  generalize fl (fx y) = d at *
  generalize mulRe c d A1 N1 = m1 at *
  generalize mulIm c d A1 N1 = m2 at *
  have H1 := Lib.hid h1
  have H2 := Lib.hid h2
  have H3 := Lib.hid h3
  have HM := Lib.hid hm
  clear h1 h2 h3 hm
  obtain ⟨t, ht⟩ : ∃ t, decide (qr n ≠ 0 ∧ dx = px ∧ dy = py) = t := ⟨_, rfl⟩
  rw [ht]
  have htc : (t = true ∧ dx = px ∧ dy = py) ∨ (t = false ∧ (dx == px) = false) ∨ (t = false ∧ (dx == px) = true ∧ (dy == py) = false) := by
    cases t
    · have := of_decide_eq_false ht
      by_cases e1 : dx = px
      · exact .inr (.inr ⟨rfl, by simpa using e1, by simpa using fun e2 => this ⟨h0, e1, e2⟩⟩)
      · exact .inr (.inl ⟨rfl, by simpa using e1⟩)
    · have := of_decide_eq_true ht
      exact .inl ⟨rfl, this.2.1, this.2.2⟩
  clear ht h0
  have hB : Below w.heap.size w ((w.alloc (.cells #[.int .i64 n, .int .i64 x, .int .i64 y] 25)).alloc (.cells #[.int .i64 0, .int .i64 0] 23)) := ((Below.refl _ _).alloc (Nat.le_refl _) _).alloc (by simp) _
  have C0 := (Cell3.new w (.int .i64 n) (.int .i64 x) (.int .i64 y) 25).alloc (.cells #[.int .i64 0, .int .i64 0] 23)
  have C := Cell2.new (w.alloc (.cells #[.int .i64 n, .int .i64 x, .int .i64 y] 25)) (.int .i64 0) (.int .i64 0) 23
  simp only [World.size_alloc] at C
  go_enter Try.func24, Try.ntmps24
  go_wp2_with (first
    | (go_at_call 27; refine (H1.out _).mono ?_; rintro e w1 ⟨rfl, hb⟩; replace hB := hB.trans (hb.mono hB.size); replace hB := hB.alloc hB.size (.cells #[.complex .f64 tu tv, .complex .f64 c d] 46); replace C := (C.kept hb).alloc (.cells #[.complex .f64 tu tv, .complex .f64 c d] 46); replace C0 := (C0.kept hb).alloc (.cells #[.complex .f64 tu tv, .complex .f64 c d] 46); have C1 := Cell2.new w1 (.complex .f64 tu tv) (.complex .f64 c d) 46; clear hb)
    | (go_at_call 35; refine (HM.out _).mono ?_; rintro e w3 ⟨rfl, rfl⟩))
  refine wp_region_calmN 9 10 [(.cells #[.int .i64 0, .int .i64 0] 23, fun b => .pointer (some ⟨b, 0, none⟩))] (by kernel_rfl) (by simp) (by simp) (by kernel_rfl) fun M => ?_
  simp only [List.take_succ_cons, List.take_zero, List.drop_succ_cons, List.drop_zero, List.length_cons, List.length_nil, List.take_nil]
  have e0 := fun n : In M.w => n.cell (M.cell C1.c0)
  have e1 := fun n : In M.w => n.cell (M.cell C1.c1)
  repeat (go_big_quiet_step (first
    | (go_at_call 35; exact In.call_same (HM.out _))
    | (go_at_call 30; exact In.call (H2.out _))))
  refine wpQuiet_nil ?_
  clear e0 e1 M
  refine ⟨rfl, fun n => by simp [go_sem], fun p hp _ w2 hw => ?_⟩
  have hb := hw.below
  simp only [World.size_alloc] at hp
  have D1 : Cell2 w2 p (.int .i64 0) (.int .i64 0) := Cell2.of_heap (hw.own p _ (Gh.set_self _ _ _))
  have hlt := World.block_lt_of_cell? _ _ C.c0
  simp only [World.size_alloc] at hlt
  have n0 : p ≠ w.heap.size := by omega
  have n1 : p ≠ w.heap.size + 1 := by omega
  have n2 : w.heap.size ≤ p := by omega
  replace C := ((C.kept hb).away ⟨p, 0, none⟩ (.int .i64 px) n1).away ⟨p, 1, none⟩ (.int .i64 py) n1
  replace C0 := ((C0.kept hb).away ⟨p, 0, none⟩ (.int .i64 px) n0).away ⟨p, 1, none⟩ (.int .i64 py) n0
  replace hB := hB.trans (hb.mono hB.size)
  replace hB := (hB.setCell (p := ⟨p, 0, none⟩) n2 (.int .i64 px)).setCell (p := ⟨p, 1, none⟩) n2 (.int .i64 py)
  have D2 := D1.set (.int .i64 px) (.int .i64 py)
  obtain ⟨d0, d1, y0, y1⟩ := D1
  clear hb hw C1 n0 n1 n2 hp hlt
  go_wp2
  clear d0 d1 y0 y1
  refine wp_region_calm0 (by kernel_rfl) (by kernel_rfl) fun M => ?_
  have e0 := fun n : In M.w => n.cell (M.cell C0.c0)
  have e1 := fun n : In M.w => n.cell (M.cell C0.c1)
  have e2 := fun n : In M.w => n.cell (M.cell C0.c2)
  have e3 := fun n : In M.w => n.cell (M.cell D2.c0)
  have e4 := fun n : In M.w => n.cell (M.cell D2.c1)
  rcases htc with ⟨rfl, rfl, rfl⟩ | ⟨rfl, hx⟩ | ⟨rfl, hx, hy⟩
  · repeat (go_big_quiet_step ((go_at_call 9; exact In.call (H3.out _))))
    refine wpQuiet_nil ?_
    intro w3 hb
    obtain ⟨g0, g1, z0, z1⟩ := C.kept hb
    obtain ⟨d0, d1, y0, y1⟩ := D2.kept hb
    replace hB := hB.trans (hb.mono hB.size)
    clear hb e0 e1 e2 e3 e4
    go_wp2
    refine bodyPost_ret (v := .tuple #[.agg #[.int .i64 dx, .int .i64 dy], .bool true]) ?_ rfl ⟨rfl, (hB.setCell (by simp) _).setCell (by simp) _⟩
    simp [results, Try.results24, go_sem, g0, g1, z0, z1]
  all_goals
    repeat (go_big_quiet_step ((go_at_call 9; exact In.call (H3.out _))))
    refine wpQuiet_nil ?_
    intro w3 hb
    obtain ⟨g0, g1, z0, z1⟩ := C.kept hb
    replace hB := hB.trans (hb.mono hB.size)
    clear hb e0 e1 e2 e3 e4
    go_wp2
    refine bodyPost_ret (v := .tuple #[.agg #[.int .i64 0, .int .i64 0], .bool false]) ?_ rfl ⟨rfl, (hB.setCell (by simp) _).setCell (by simp) _⟩
    simp [results, Try.results24, go_sem, g0, g1, z0, z1]

theorem mstill_any (n x y : Int) (w : World) : Calls Try.prog 24 #[.agg #[.int .i64 n, .int .i64 x, .int .i64 y]] w fun e w' => e = .returned (.tuple #[.agg #[.int .i64 (sx n x y), .int .i64 (sy n x y)], .bool (sb n x y)]) ∧ Below w.heap.size w w' := by
  by_cases h0 : qr n = 0
  · have e : sb n x y = false := by unfold sb; exact decide_eq_false fun h => h.1 h0
    have ex : sx n x y = 0 := by unfold sx; rw [e]; rfl
    have ey : sy n x y = 0 := by unfold sy; rw [e]; rfl
    rw [ex, ey, e]
    exact mstill_zero n x y h0 w
  · exact mstill_turn n x y h0 w
end Go.Proofs.Ytgaglplionfdgaa
