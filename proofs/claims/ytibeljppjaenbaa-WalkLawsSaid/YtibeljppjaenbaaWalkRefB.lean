/- The walks of the document's answers for layer 5: where a walk ends. -/
import Derived.Test.YtibeljppjaenbaaWalkRefA
import Derived.Test.YtibeljppjaenbaaMotionA
import Derived.Test.YtibeljppjaenbaaGaussS
namespace Go.Proofs.Ytibeljppjaenbaa
open Go.RowKit

set_option maxHeartbeats 1000000 in
theorem refStep_any (x y t n : Int) (w : World) (hx : x.natAbs ≤ 1000000000000) (hy : y.natAbs ≤ 1000000000000) (hn : n.natAbs ≤ 1048576) : Calls Try.prog 39 #[.agg #[.int .i64 x, .int .i64 y], .int .i64 t, .int .i64 n] w fun e w' =>
    e = .returned (.agg #[.int .i64 (x + n * uq (t % 4).toNat), .int .i64 (y + n * vq (t % 4).toNat)]) ∧ Below w.heap.size w w' := by
  have h1 := fun w => refTurn_any 1 0 t w
  rw [show fx 1 = 1 by decide, show fx 0 = 0 by decide] at h1
  change ∀ w, Calls _ _ _ w fun e w' => e = .returned (.agg #[.int .i64 (uq (t % 4).toNat), .int .i64 (vq (t % 4).toNat)]) ∧ Below w.heap.size w w' at h1
  obtain ⟨u1, u2⟩ := unit_abs (t % 4).toNat
  generalize uq (t % 4).toNat = u at *
  generalize vq (t % 4).toNat = v at *
  have b1 := mul_bd hn u1
  have b2 := mul_bd hn u2
  have a1 : -1048576 ≤ n * u := by omega
  have a2 : n * u ≤ 1048576 := by omega
  have a3 : -1048576 ≤ n * v := by omega
  have a4 : n * v ≤ 1048576 := by omega
  have a5 : -1000000000000 ≤ x := by omega
  have a6 : x ≤ 1000000000000 := by omega
  have a7 : -1000000000000 ≤ y := by omega
  have a8 : y ≤ 1000000000000 := by omega
  have H1 := Lib.hid h1
  clear h1 b1 b2 u1 u2 hn hx hy
  have hB : Below w.heap.size w ((w.alloc (.cells #[.int .i64 x, .int .i64 y] 34)).alloc (.cells #[.int .i64 0, .int .i64 0] 34)) := ((Below.refl _ _).alloc (Nat.le_refl _) _).alloc (by simp) _
  have C0 := (Cell2.new w (.int .i64 x) (.int .i64 y) 34).alloc (.cells #[.int .i64 0, .int .i64 0] 34)
  have C1 := Cell2.new (w.alloc (.cells #[.int .i64 x, .int .i64 y] 34)) (.int .i64 0) (.int .i64 0) 34
  simp only [World.size_alloc] at C0 C1
  go_enter Try.func39, Try.ntmps39
  go_wp2_with (go_at_call 61; refine (H1.out _).mono ?_; rintro e w1 ⟨rfl, hb⟩; replace hB := hB.trans (hb.mono hB.size); replace hB := hB.alloc hB.size (.cells #[.int .i64 u, .int .i64 v] 34); have D0 := (C0.kept hb).alloc (.cells #[.int .i64 u, .int .i64 v] 34); have D1 := (C1.kept hb).alloc (.cells #[.int .i64 u, .int .i64 v] 34); have g0 := D0.c0; have g1 := D0.c1; obtain ⟨g2, g3, z2, z3⟩ := D1; clear hb C0 C1 D0)
  refine bodyPost_ret (v := .agg #[.int .i64 (x + n * u), .int .i64 (y + n * v)]) ?_ rfl ⟨rfl, (hB.setCell (by simp) _).setCell (by simp) _⟩
  simp [results, Try.results39, go_sem, g2, g3, z2, z3]

/-- where a walk ends: quarters, and the place -/
def estep (s : Int × Int × Int) (m : Int × Int) : Int × Int × Int :=
  if m.1 = 1 then (s.1, s.2.1 + cnt m * uq (s.1 % 4).toNat, s.2.2 + cnt m * vq (s.1 % 4).toNat)
  else if m.1 = 2 then (s.1, s.2.1 + -cnt m * uq (s.1 % 4).toNat, s.2.2 + -cnt m * vq (s.1 % 4).toNat)
  else if m.1 = 3 then ((s.1 + cnt m) % 4, s.2.1, s.2.2)
  else if m.1 = 4 then ((s.1 + 3 * cnt m) % 4, s.2.1, s.2.2)
  else s
def eend (l : List (Int × Int)) : Int × Int × Int := l.foldl estep (0, 0, 0)
theorem eend_succ (l : List (Int × Int)) (k : Nat) (h : k < l.length) : eend (l.take (k + 1)) = estep (eend (l.take k)) l[k] := by
  unfold eend
  rw [List.take_add_one, List.getElem?_eq_getElem h, List.foldl_append]
  rfl
theorem bd_add {x p : Int} {B : Nat} (h : x.natAbs ≤ B) (hp : p.natAbs ≤ 1048576) : (x + p).natAbs ≤ B + 1048576 := by omega
theorem bd_up {x : Int} {B : Nat} (h : x.natAbs ≤ B) : x.natAbs ≤ B + 1048576 := by omega
theorem mod4_bd (a : Int) : 0 ≤ a % 4 ∧ a % 4 ≤ 3 := by omega
theorem cnt_abs (m : Int × Int) : (cnt m).natAbs ≤ 1048576 ∧ (-cnt m).natAbs ≤ 1048576 := by have := cnt_bd m; omega
theorem unit_bd {c : Int} (q : Nat) (h : c.natAbs ≤ 1048576) : (c * uq q).natAbs ≤ 1048576 ∧ (c * vq q).natAbs ≤ 1048576 := ⟨mul_bd h (unit_abs q).1, mul_bd h (unit_abs q).2⟩
theorem estep_bd (s : Int × Int × Int) (m : Int × Int) (B : Nat) (h0 : 0 ≤ s.1 ∧ s.1 ≤ 3) (h1 : s.2.1.natAbs ≤ B) (h2 : s.2.2.natAbs ≤ B) :
    (0 ≤ (estep s m).1 ∧ (estep s m).1 ≤ 3) ∧ (estep s m).2.1.natAbs ≤ B + 1048576 ∧ (estep s m).2.2.natAbs ≤ B + 1048576 := by
  obtain ⟨hc, hd⟩ := cnt_abs m
  unfold estep
  split
  · exact ⟨h0, bd_add h1 (unit_bd _ hc).1, bd_add h2 (unit_bd _ hc).2⟩
  · split
    · exact ⟨h0, bd_add h1 (unit_bd _ hd).1, bd_add h2 (unit_bd _ hd).2⟩
    · split
      · exact ⟨mod4_bd _, bd_up h1, bd_up h2⟩
      · split
        · exact ⟨mod4_bd _, bd_up h1, bd_up h2⟩
        · exact ⟨h0, bd_up h1, bd_up h2⟩
theorem eend_bd (l : List (Int × Int)) (k : Nat) : (0 ≤ (eend (l.take k)).1 ∧ (eend (l.take k)).1 ≤ 3) ∧ (eend (l.take k)).2.1.natAbs ≤ k * 1048576 ∧ (eend (l.take k)).2.2.natAbs ≤ k * 1048576 := by
  induction k with
  | zero => simp [eend]
  | succ k ih =>
    by_cases h : k < l.length
    · rw [eend_succ l k h]
      have := estep_bd _ l[k] _ ih.1 ih.2.1 ih.2.2
      rw [Nat.add_mul, Nat.one_mul]
      exact this
    · rw [List.take_of_length_le (by omega)]
      rw [List.take_of_length_le (by omega)] at ih
      refine ⟨ih.1, Nat.le_trans ih.2.1 (Nat.mul_le_mul_right _ (by omega)), Nat.le_trans ih.2.2 (Nat.mul_le_mul_right _ (by omega))⟩

set_option maxHeartbeats 4000000 in
theorem refEnd_any (va : Value) (l : List (Int × Int)) (w : World) (ha : PairsAt w va l) (hl : l.length ≤ 300) :
    Calls Try.prog 17 #[va] w fun e w' => e = .returned (.agg #[.int .i64 (eend l).1, .int .i64 (eend l).2.1, .int .i64 (eend l).2.2]) ∧ Below w.heap.size w w' := by
  have hlt0 : ∀ g, (∃ v, w.cell? ⟨g, 0, none⟩ = some v) → g < w.heap.size := fun g ⟨v, hv⟩ => World.block_lt_of_cell? w _ hv
  obtain ⟨a, ca, rfl, hca, ha⟩ := ha
  have hB : Below w.heap.size w ((w.alloc (.cells #[.int .i64 0, .int .i64 0, .int .i64 0] 36)).alloc (.cells #[.int .i64 0, .int .i64 0] 34)) := ((Below.refl _ _).alloc (Nat.le_refl _) _).alloc (by simp) _
  have C0 := (Cell3.new w (.int .i64 0) (.int .i64 0) (.int .i64 0) 36).alloc (.cells #[.int .i64 0, .int .i64 0] 34)
  have C1 := Cell2.new (w.alloc (.cells #[.int .i64 0, .int .i64 0, .int .i64 0] 36)) (.int .i64 0) (.int .i64 0) 34
  simp only [World.size_alloc] at C0 C1
  go_enter Try.func17, Try.ntmps17
  go_wp2
  go_loopw [4, 5, 6] (fun t i _ wr => ∃ (k : Nat) (T X Y : Int), k ≤ l.length ∧ i = .int .i64 k ∧ t = .int .i64 T ∧ eend (l.take k) = (T, X, Y) ∧ Below w.heap.size w wr ∧ Cell3 wr w.heap.size (.int .i64 0) (.int .i64 0) (.int .i64 0) ∧ Cell2 wr (w.heap.size + 1) (.int .i64 X) (.int .i64 Y)) (fun _ i _ _ => l.length - (intOf i).toNat)
  case atStart => exact ⟨0, 0, 0, 0, Nat.zero_le _, rfl, rfl, rfl, hB, C0, C1⟩
  case round =>
    clear hB C0 C1
    obtain ⟨k, T, X, Y, hk, rfl, rfl, hs, hB, C0, C1⟩ := hrel
    obtain ⟨⟨t0, t3⟩, bX, bY⟩ := eend_bd l k
    rw [hs] at t0 t3 bX bY
    simp only at t0 t3 bX bY
    by_cases hlt : k < l.length
    · have hsucc := eend_succ l k hlt
      obtain ⟨ga, oa, rfl, hga, hxa⟩ := ha (by omega)
      obtain ⟨⟨x1, x2⟩, hx⟩ : ∃ x, l[k]'hlt = x := ⟨_, rfl⟩
      have hx0 := hxa k _ (List.getElem?_eq_getElem hlt)
      rw [hx] at hx0 hsucc
      rw [hs] at hsucc
      have p1 : wr.cell? ⟨ga, oa + k * 2, none⟩ = some (.int .i64 x1) := (hB.cell (p := ⟨ga, oa + k * 2, none⟩) hga).trans hx0.1
      have p2 : wr.cell? ⟨ga, oa + k * 2 + 1, none⟩ = some (.int .i64 x2) := (hB.cell (p := ⟨ga, oa + k * 2 + 1, none⟩) hga).trans hx0.2
      have bX' : X.natAbs ≤ 1000000000000 := by omega
      have bY' : Y.natAbs ≤ 1000000000000 := by omega
      have hc := fun w => refCount_any x1 x2 w
      obtain ⟨cb0, cb1⟩ := cnt_bd (x1, x2)
      have ns : w.heap.size + 1 ≠ w.heap.size := by omega
      have hm : ∀ c : Int, 0 ≤ c → c ≤ 1048576 → Int.tmod (T + c) 4 = (T + c) % 4 ∧ Int.tmod (T + 3 * c) 4 = (T + 3 * c) % 4 := fun c h1 h2 => ⟨Int.tmod_eq_emod_of_nonneg (by omega), Int.tmod_eq_emod_of_nonneg (by omega)⟩
      unfold estep at hsucc
      simp only at hsucc
      clear hx0 hxa ha hx hs bX bY hlt0
      have hkind : x1 = 1 ∨ x1 = 2 ∨ x1 = 3 ∨ x1 = 4 ∨ (x1 ≠ 1 ∧ x1 ≠ 2 ∧ x1 ≠ 3 ∧ x1 ≠ 4) := by omega
      rcases hkind with rfl | rfl | rfl | rfl | ⟨n1, n2, n3, n4⟩
      · have h1 := fun w => refStep_any X Y T (cnt (1, x2)) w bX' bY' (cnt_abs (1, x2)).1
        rw [if_pos rfl] at hsucc
        generalize X + cnt (1, x2) * uq (T % 4).toNat = X' at *
        generalize Y + cnt (1, x2) * vq (T % 4).toNat = Y' at *
        generalize cnt (1, x2) = c at *
        have HS := Lib.hid hsucc
        have HC := Lib.hid hc
        have H1 := Lib.hid h1
        clear hsucc hc h1 bX' bY' hm
        have u0 := C1.c0
        have u1 := C1.c1
        go_wp2_with (first
          | (go_at_call 32; refine (HC.out _).mono ?_; rintro e w1 ⟨rfl, hb⟩; replace hB := hB.trans (hb.mono hB.size); replace C0 := C0.kept hb; replace C1 := C1.kept hb; replace p1 := (hb.cell (World.block_lt_of_cell? _ _ p1)).trans p1; replace p2 := (hb.cell (World.block_lt_of_cell? _ _ p2)).trans p2; clear hb u0 u1; have u0 := C1.c0; have u1 := C1.c1)
          | (go_at_call 39; refine (H1.out _).mono ?_; rintro e w2 ⟨rfl, hb⟩; replace hB := hB.trans (hb.mono hB.size); replace C0 := C0.kept hb; replace C1 := C1.kept hb; clear hb u0 u1 p1 p2; obtain ⟨u0, u1, z0, z1⟩ := C1))
        go_roundw
        case rel => exact ⟨k + 1, T, X', Y', by omega, by go_num, rfl, HS.out, (hB.setCell (by simp) _).setCell (by simp) _, (C0.away _ _ ns).away _ _ ns, (Cell2.mk u0 u1 z0 z1).set _ _⟩
        case measure => simp [intOf]; omega
      · have h1 := fun w => refStep_any X Y T (-cnt (2, x2)) w bX' bY' (cnt_abs (2, x2)).2
        rw [if_neg (by decide), if_pos rfl] at hsucc
        generalize X + -cnt (2, x2) * uq (T % 4).toNat = X' at *
        generalize Y + -cnt (2, x2) * vq (T % 4).toNat = Y' at *
        generalize cnt (2, x2) = c at *
        have HS := Lib.hid hsucc
        have HC := Lib.hid hc
        have H1 := Lib.hid h1
        clear hsucc hc h1 bX' bY' hm
        have u0 := C1.c0
        have u1 := C1.c1
        go_wp2_with (first
          | (go_at_call 32; refine (HC.out _).mono ?_; rintro e w1 ⟨rfl, hb⟩; replace hB := hB.trans (hb.mono hB.size); replace C0 := C0.kept hb; replace C1 := C1.kept hb; replace p1 := (hb.cell (World.block_lt_of_cell? _ _ p1)).trans p1; replace p2 := (hb.cell (World.block_lt_of_cell? _ _ p2)).trans p2; clear hb u0 u1; have u0 := C1.c0; have u1 := C1.c1)
          | (go_at_call 39; refine (H1.out _).mono ?_; rintro e w2 ⟨rfl, hb⟩; replace hB := hB.trans (hb.mono hB.size); replace C0 := C0.kept hb; replace C1 := C1.kept hb; clear hb u0 u1 p1 p2; obtain ⟨u0, u1, z0, z1⟩ := C1))
        go_roundw
        case rel => exact ⟨k + 1, T, X', Y', by omega, by go_num, rfl, HS.out, (hB.setCell (by simp) _).setCell (by simp) _, (C0.away _ _ ns).away _ _ ns, (Cell2.mk u0 u1 z0 z1).set _ _⟩
        case measure => simp [intOf]; omega
      · rw [if_neg (by decide), if_neg (by decide), if_pos rfl] at hsucc
        have HM := (hm (cnt (3, x2)) cb0 cb1).1
        generalize cnt (3, x2) = c at *
        have HS := Lib.hid hsucc
        have HC := Lib.hid hc
        clear hsucc hc bX' bY' hm
        go_wp2_with (go_at_call 32; refine (HC.out _).mono ?_; rintro e w1 ⟨rfl, hb⟩; replace hB := hB.trans (hb.mono hB.size); replace C0 := C0.kept hb; replace C1 := C1.kept hb; replace p1 := (hb.cell (World.block_lt_of_cell? _ _ p1)).trans p1; replace p2 := (hb.cell (World.block_lt_of_cell? _ _ p2)).trans p2; clear hb)
        go_roundw
        case rel => exact ⟨k + 1, (T + c) % 4, X, Y, by omega, by go_num, rfl, HS.out, hB, C0, C1⟩
        case measure => simp [intOf]; omega
      · rw [if_neg (by decide), if_neg (by decide), if_neg (by decide), if_pos rfl] at hsucc
        have HM := (hm (cnt (4, x2)) cb0 cb1).2
        generalize cnt (4, x2) = c at *
        have HS := Lib.hid hsucc
        have HC := Lib.hid hc
        clear hsucc hc bX' bY' hm
        go_wp2_with (go_at_call 32; refine (HC.out _).mono ?_; rintro e w1 ⟨rfl, hb⟩; replace hB := hB.trans (hb.mono hB.size); replace C0 := C0.kept hb; replace C1 := C1.kept hb; replace p1 := (hb.cell (World.block_lt_of_cell? _ _ p1)).trans p1; replace p2 := (hb.cell (World.block_lt_of_cell? _ _ p2)).trans p2; clear hb)
        go_roundw
        case rel => exact ⟨k + 1, (T + 3 * c) % 4, X, Y, by omega, by go_num, rfl, HS.out, hB, C0, C1⟩
        case measure => simp [intOf]; omega
      · rw [if_neg n1, if_neg n2, if_neg n3, if_neg n4] at hsucc
        generalize cnt (x1, x2) = c at *
        have HS := Lib.hid hsucc
        have HC := Lib.hid hc
        have m1 := beq_no' n1
        have m2 := beq_no' n2
        have m3 := beq_no' n3
        have m4 := beq_no' n4
        clear hsucc hc bX' bY' hm
        go_wp2_with (go_at_call 32; refine (HC.out _).mono ?_; rintro e w1 ⟨rfl, hb⟩; replace hB := hB.trans (hb.mono hB.size); replace C0 := C0.kept hb; replace C1 := C1.kept hb; replace p1 := (hb.cell (World.block_lt_of_cell? _ _ p1)).trans p1; replace p2 := (hb.cell (World.block_lt_of_cell? _ _ p2)).trans p2; clear hb)
        go_roundw
        case rel => exact ⟨k + 1, T, X, Y, by omega, by go_num, rfl, HS.out, hB, C0, C1⟩
        case measure => simp [intOf]; omega
    · obtain ⟨u0, u1, z0, z1⟩ := C1
      obtain ⟨g0, g1, g2, y0, y1, y2⟩ := C0
      have e : eend l = (T, X, Y) := by rw [← hs, List.take_of_length_le (by omega)]
      have E := Lib.hid e
      clear e hs ha bX bY hlt0
      go_wp2
      refine bodyPost_ret (v := .agg #[.int .i64 T, .int .i64 X, .int .i64 Y]) ?_ rfl ⟨by rw [E.out], ((hB.setCell (by simp) _).setCell (by simp) _).setCell (by simp) _⟩
      simp [results, Try.results17, go_sem, g0, g1, g2, y0, y1, y2]
end Go.Proofs.Ytibeljppjaenbaa
