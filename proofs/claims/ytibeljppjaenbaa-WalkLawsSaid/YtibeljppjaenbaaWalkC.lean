/- The walks of package walk: where a walk ends. -/
import Derived.Test.YtibeljppjaenbaaWalkB
namespace Go.Proofs.Ytibeljppjaenbaa
open Go.RowKit
attribute [local go_sem] store_complex

theorem unit_ne {q k : Nat} (hq : q < 4) (hk : k < q) : uq q ≠ uq k ∨ (uq q = uq k ∧ vq q ≠ vq k) := by
  have h : q = 1 ∨ q = 2 ∨ q = 3 := by omega
  rcases h with rfl | rfl | rfl
  · obtain rfl : k = 0 := by omega
    decide
  · have h : k = 0 ∨ k = 1 := by omega
    rcases h with rfl | rfl <;> decide
  · have h : k = 0 ∨ k = 1 ∨ k = 2 := by omega
    rcases h with rfl | rfl | rfl <;> decide

set_option maxHeartbeats 1000000 in
theorem windex_any (q c d b : Nat) (hq : q < 4) (hc : Fl c (uq q)) (hd : Fl d (vq q)) (w : World)
    (hcell : ∀ k, k < 4 → ∃ a e, w.cell? ⟨b, k, none⟩ = some (.complex .f64 a e) ∧ Fl a (uq k) ∧ Fl e (vq k)) :
    Calls Try.prog 43 #[.slice (some ⟨b, 0, none⟩) 4 4, .complex .f64 c d] w fun e w' => e = .returned (.int .i64 q) ∧ w = w' := by
  go_enter Try.func43, Try.ntmps43
  go_wp2
  go_loopw [5, 8] (fun _ i wr => ∃ k : Nat, k ≤ q ∧ i = .int .i64 k ∧ w = wr) (fun _ i _ => 4 - (intOf i).toNat)
  case atStart => exact ⟨0, Nat.zero_le _, rfl, rfl⟩
  case round =>
    obtain ⟨k, hk, rfl, rfl⟩ := hrel
    obtain ⟨a, e, p1, ha, he⟩ := hcell k (by omega)
    have o1 := ord_eq hc ha
    have o2 := ord_eq hd he
    have hk4 : (k : Int) < 4 := by omega
    by_cases hlt : k = q
    · subst hlt
      rw [decide_eq_true rfl] at o1 o2
      clear hcell ha he hc hd
      go_wp2
      go_ret
      exact ⟨rfl, rfl⟩
    · rcases unit_ne hq (show k < q by omega) with h1 | ⟨h1, h2⟩
      · rw [decide_eq_false h1] at o1
        clear o2 h1 hcell ha he hc hd
        go_wp2
        go_roundw
        case rel => exact ⟨k + 1, by omega, by go_num, trivial⟩
        case measure => simp [intOf]; omega
      · rw [decide_eq_true h1] at o1
        rw [decide_eq_false h2] at o2
        clear h1 h2 hcell ha he hc hd
        go_wp2
        go_roundw
        case rel => exact ⟨k + 1, by omega, by go_num, trivial⟩
        case measure => simp [intOf]; omega

theorem pln_bd (m : Int × Int) : (pln m).1.natAbs ≤ 1048576 ∧ 0 ≤ (pln m).2 ∧ (pln m).2 ≤ 3 := by
  have := cnt_bd m
  unfold pln
  split
  · simp only; omega
  · split
    · simp only; omega
    · split
      · simp only; omega
      · split
        · simp only; omega
        · simp
theorem estep_pln (T X Y : Int) (m : Int × Int) (h : 0 ≤ T ∧ T ≤ 3) : estep (T, X, Y) m = ((T + (pln m).2) % 4, X + (pln m).1 * uq (T % 4).toNat, Y + (pln m).1 * vq (T % 4).toNat) := by
  have e0 : (T + 0) % 4 = T := by omega
  unfold estep pln
  split
  · simp only; rw [e0]
  · split
    · simp only; rw [e0]
    · split
      · simp only [Int.zero_mul, Int.add_zero]; rw [show (T + cnt m % 4) % 4 = (T + cnt m) % 4 by omega]
      · split
        · simp only [Int.zero_mul, Int.add_zero]; rw [show (T + 3 * cnt m % 4) % 4 = (T + 3 * cnt m) % 4 by omega]
        · simp only [Int.zero_mul, Int.add_zero]; rw [show T % 4 = T by omega]
theorem Wk.mod {v : Value} {q : Nat} {x y : Int} (h : Wk v q x y) : Wk v (q % 4) x y := by
  obtain ⟨a, b, c, d, e, ha, hb, hc, hd⟩ := h.is
  have e' := rot_mod q 1 0
  exact ⟨a, b, c, d, e, ha, hb, by rw [show uq (q % 4) = uq q from congrArg Prod.fst e']; exact hc, by rw [show vq (q % 4) = vq q from congrArg Prod.snd e']; exact hd⟩
/-- one move further -/
theorem wnext_any {v : Value} {T X Y : Int} (m : Int × Int) (h : Wk v (T % 4).toNat X Y) (hT : 0 ≤ T ∧ T ≤ 3) (hx : X.natAbs ≤ 1000000000000) (hy : Y.natAbs ≤ 1000000000000) :
    ∃ v', (∃ T' X' Y', estep (T, X, Y) m = (T', X', Y') ∧ Wk v' (T' % 4).toNat X' Y') ∧ ∀ w, Calls Try.prog 40 #[v, .agg #[.int .i64 (pln m).1, .int .i64 (pln m).2]] w fun e w' => e = .returned v' ∧ Below w.heap.size w w' := by
  obtain ⟨b1, b2, b3⟩ := pln_bd m
  have hs := estep_pln T X Y m hT
  obtain ⟨r, hr⟩ : ∃ r : Nat, (pln m).2 = r := ⟨(pln m).2.toNat, by omega⟩
  rw [hr] at hs b3 ⊢
  obtain ⟨v', hw, hc⟩ := wbehind_any (r := r) (s := (pln m).1) h (by omega) hx hy b1
  refine ⟨v', ⟨_, _, _, hs, ?_⟩, hc⟩
  have e : ((T + (r : Int)) % 4 % 4).toNat = ((T % 4).toNat + r) % 4 := by omega
  rw [e]
  exact hw.mod
theorem four_cells (w : World) : ∀ k, k < 4 → ∃ a e, (w.alloc (.cells #[.complex .f64 4607182418800017408 0, .complex .f64 0 4607182418800017408, .complex .f64 13830554455654793216 0, .complex .f64 0 13830554455654793216] 75)).cell? ⟨w.heap.size, k, none⟩ = some (.complex .f64 a e) ∧ Fl a (uq k) ∧ Fl e (vq k) := by
  intro k hk
  obtain ⟨a, e, h1, h2, h3⟩ := quarter_word k hk
  refine ⟨a, e, ?_, h2, h3⟩
  have hh := heap_alloc_new w (.cells #[.complex .f64 4607182418800017408 0, .complex .f64 0 4607182418800017408, .complex .f64 13830554455654793216 0, .complex .f64 0 13830554455654793216] 75)
  simp only [World.cell?, hh]
  exact h1

set_option maxHeartbeats 4000000 in
theorem wEnd_any (va : Value) (l : List (Int × Int)) (w : World) (ha : PairsAt w va l) (hl : l.length ≤ 300) :
    Calls Try.prog 16 #[va] w fun e w' => e = .returned (.agg #[.int .i64 (eend l).1, .int .i64 (eend l).2.1, .int .i64 (eend l).2.2]) ∧ Below w.heap.size w w' := by
  obtain ⟨a, ca, rfl, hca, ha⟩ := ha
  have hB : Below w.heap.size w (w.alloc (.cells #[.int .i64 0, .int .i64 0, .int .i64 0] 36)) := (Below.refl _ _).alloc (Nat.le_refl _) _
  have C0 := Cell3.new w (.int .i64 0) (.int .i64 0) (.int .i64 0) 36
  go_enter Try.func16, Try.ntmps16
  go_wp2_with (go_at_call 36; refine (wfirst_any _).mono ?_; rintro e w1 ⟨rfl, hb⟩; replace hB := hB.trans (hb.mono hB.size); replace C0 := C0.kept hb; clear hb)
  have hB1 := hB.alloc hB.size (.cells #[.complex .f64 0 0, .complex .f64 4607182418800017408 0] 66)
  have C1 := C0.alloc (.cells #[.complex .f64 0 0, .complex .f64 4607182418800017408 0] 66)
  have D1 := Cell2.new w1 (.complex .f64 0 0) (.complex .f64 4607182418800017408 0) 66
  have hlo : w.heap.size < w1.heap.size := World.block_lt_of_cell? _ _ C0.c0
  obtain ⟨B, hBB⟩ : ∃ B, w1.heap.size = B := ⟨_, rfl⟩
  rw [hBB] at D1 hlo ⊢
  clear hB C0
  go_loopw [5, 10] (fun _ i wr => ∃ (k : Nat) (T X Y : Int) (a b c d : Nat), k ≤ l.length ∧ i = .int .i64 k ∧ eend (l.take k) = (T, X, Y) ∧ Below w.heap.size w wr ∧ Cell3 wr w.heap.size (.int .i64 0) (.int .i64 0) (.int .i64 0) ∧ Cell2 wr B (.complex .f64 a b) (.complex .f64 c d) ∧ Wk (.agg #[.complex .f64 a b, .complex .f64 c d]) (T % 4).toNat X Y) (fun _ i _ => l.length - (intOf i).toNat)
  case atStart => exact ⟨0, 0, 0, 0, _, _, _, _, Nat.zero_le _, rfl, rfl, hB1, C1, D1, wk_first⟩
  case round =>
    clear hB1 C1 D1 hBB
    clear w1
    obtain ⟨k, T, X, Y, z1, z2, z3, z4, hk, rfl, hs, hB, C0, C1, hW⟩ := hrel
    obtain ⟨hT, bX, bY⟩ := eend_bd l k
    rw [hs] at hT bX bY
    simp only at hT bX bY
    by_cases hlt : k < l.length
    · have hsucc := eend_succ l k hlt
      obtain ⟨ga, oa, rfl, hga, hxa⟩ := ha (by omega)
      obtain ⟨⟨x1, x2⟩, hx⟩ : ∃ x, l[k]'hlt = x := ⟨_, rfl⟩
      have hx0 := hxa k _ (List.getElem?_eq_getElem hlt)
      rw [hx] at hx0 hsucc
      rw [hs] at hsucc
      have p1 : wr.cell? ⟨ga, oa + k * 2, none⟩ = some (.int .i64 x1) := (hB.cell (p := ⟨ga, oa + k * 2, none⟩) hga).trans hx0.1
      have p2 : wr.cell? ⟨ga, oa + k * 2 + 1, none⟩ = some (.int .i64 x2) := (hB.cell (p := ⟨ga, oa + k * 2 + 1, none⟩) hga).trans hx0.2
      obtain ⟨v', ⟨T', X', Y', hst, hW'⟩, hbe⟩ := wnext_any (x1, x2) hW hT (by omega) (by omega)
      rw [hst] at hsucc
      obtain ⟨y1, y2, y3, y4, rfl, _⟩ := hW'.is
      have hdo := fun w => wdone_any x1 x2 w
      obtain ⟨⟨s, r⟩, hsr⟩ : ∃ p, pln (x1, x2) = p := ⟨_, rfl⟩
      rw [hsr] at hbe hdo
      have HS := Lib.hid hsucc
      have HD := Lib.hid hdo
      have HE := Lib.hid hbe
      clear hx0 hxa ha hx hs bX bY hsucc hdo hbe hst hsr hT hW
      have hlen : (k : Int) < l.length := by omega
      go_wp2
      have D := (Cell2.new wr (.int .i64 x1) (.int .i64 x2) 48)
      refine wp_region_calmT 4 (by kernel_rfl) (by simp) (by kernel_rfl) fun M => ?_
      simp only [List.take_succ_cons, List.take_zero, List.drop_succ_cons, List.drop_zero]
      have hc0 := fun n : In M.w => n.cell (M.cell ((C1.alloc (.cells #[.int .i64 x1, .int .i64 x2] 48)).c0))
      have hc1 := fun n : In M.w => n.cell (M.cell ((C1.alloc (.cells #[.int .i64 x1, .int .i64 x2] 48)).c1))
      have hc2 := fun n : In M.w => n.cell (M.cell D.c0)
      have hc3 := fun n : In M.w => n.cell (M.cell D.c1)
      repeat (go_big_quiet_step (first
        | (go_at_call 41; with_reducible exact In.call (HD.out _))
        | (go_at_call 40; with_reducible exact In.call (HE.out _))))
      refine wpQuiet_nil ?_
      intro w1 hb
      replace C0 := (C0.alloc (.cells #[.int .i64 x1, .int .i64 x2] 48)).kept hb
      obtain ⟨g0, g1, z0, z1⟩ := (C1.alloc (.cells #[.int .i64 x1, .int .i64 x2] 48)).kept hb
      replace hB := (hB.alloc hB.size (.cells #[.int .i64 x1, .int .i64 x2] 48)).trans (hb.mono (by have := hB.size; simp; omega))
      clear hb hc0 hc1 hc2 hc3 D C1 p1 p2 M
      go_wp2
      have ns : B ≠ w.heap.size := by omega
      go_roundw
      case rel => exact ⟨k + 1, T', X', Y', y1, y2, y3, y4, by omega, by go_num, HS.out, (hB.setCell (by simp; omega) _).setCell (by simp; omega) _, (C0.away _ _ ns).away _ _ ns, (Cell2.mk g0 g1 z0 z1).set _ _, hW'⟩
      case measure => simp [intOf]; omega
    · have e : eend l = (T, X, Y) := by rw [← hs, List.take_of_length_le (by omega)]
      have E := Lib.hid e
      obtain ⟨y1, y2, y3, y4, hy, f1, f2, f3, f4⟩ := hW.is
      cases hy
      have hpt := fun w => wpoint_any z1 z2 X Y f1 f2 (by omega) (by omega) w
      have hix := fun w b hcell => windex_any (T % 4).toNat z3 z4 b (by omega) f3 f4 w hcell
      have hTT : (((T % 4).toNat : Nat) : Int) = T := by omega
      rw [hTT] at hix
      have HP := Lib.hid hpt
      have HI := Lib.hid hix
      clear e hs ha bX bY hpt hix f1 f2 f3 f4 hW hTT hk
      obtain ⟨g0, g1, z0', z1'⟩ := C1
      go_wp2_with (go_at_call 42; refine (wquarters_any _).mono ?_; rintro e w1 ⟨rfl, hb⟩; replace hB := hB.trans (hb.mono hB.size); replace C0 := C0.kept hb; replace g0 := (hb.cell (World.block_lt_of_cell? _ _ g0)).trans g0; replace g1 := (hb.cell (World.block_lt_of_cell? _ _ g1)).trans g1; clear hb)
      have F := four_cells w1
      have G0 := C0.alloc (.cells #[.complex .f64 4607182418800017408 0, .complex .f64 0 4607182418800017408, .complex .f64 13830554455654793216 0, .complex .f64 0 13830554455654793216] 75)
      have hB2 := hB.alloc hB.size (.cells #[.complex .f64 4607182418800017408 0, .complex .f64 0 4607182418800017408, .complex .f64 13830554455654793216 0, .complex .f64 0 13830554455654793216] 75)
      refine wp_region_calmT 8 (by kernel_rfl) (by simp) (by kernel_rfl) fun M => ?_
      simp only [List.take_succ_cons, List.take_zero, List.drop_succ_cons, List.drop_zero]
      have hc0 := fun n : In M.w => n.cell (M.cell (((Below.refl _ w1).alloc (Nat.le_refl _) _).cell (World.block_lt_of_cell? _ _ g0) |>.trans g0))
      have hc1 := fun n : In M.w => n.cell (M.cell (((Below.refl _ w1).alloc (Nat.le_refl _) _).cell (World.block_lt_of_cell? _ _ g1) |>.trans g1))
      have hF : ∀ n : In M.w, ∀ k, k < 4 → ∃ a e, n.w.cell? ⟨w1.heap.size, k, none⟩ = some (.complex .f64 a e) ∧ Fl a (uq k) ∧ Fl e (vq k) := fun n k hk => by
        obtain ⟨a, e, h1, h2, h3⟩ := F k hk
        exact ⟨a, e, n.cell (M.cell h1), h2, h3⟩
      repeat (go_big_quiet_step (first
        | (go_at_call 43; exact In.call_same (HI.out _ _ (hF _)))
        | (go_at_call 35; with_reducible exact In.call (HP.out _))))
      refine wpQuiet_nil ?_
      intro w2 hb
      obtain ⟨g0, g1, g2, y0, y1, y2⟩ := G0.kept hb
      replace hB := hB2.trans (hb.mono hB2.size)
      clear hb hc0 hc1 hF F G0 hB2 M
      go_wp2
      refine bodyPost_ret (v := .agg #[.int .i64 T, .int .i64 X, .int .i64 Y]) ?_ rfl ⟨by rw [E.out], ((hB.setCell (by simp) _).setCell (by simp) _).setCell (by simp) _⟩
      simp [results, Try.results16, go_sem, g0, g1, g2, y0, y1, y2]
end Go.Proofs.Ytibeljppjaenbaa
