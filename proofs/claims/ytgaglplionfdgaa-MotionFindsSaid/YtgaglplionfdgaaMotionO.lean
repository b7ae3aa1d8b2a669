/- The walks of motion.Order and motion.Between. -/
import Derived.Test.YtgaglplionfdgaaMotionR
namespace Go.Proofs.Ytgaglplionfdgaa
open Go.RowKit
attribute [local go_sem] store_complex

/-- a way, turned and added to itself, j times -/
def sway (q : Nat) (x y : Int) : Nat → Int × Int
  | 0 => (0, 0)
  | j + 1 => ((rot q (sway q x y j).1 (sway q x y j).2).1 + x, (rot q (sway q x y j).1 (sway q x y j).2).2 + y)
theorem sway_abs (q : Nat) (x y : Int) (B : Nat) (hx : x.natAbs ≤ B) (hy : y.natAbs ≤ B) (j : Nat) : (sway q x y j).1.natAbs ≤ j * B ∧ (sway q x y j).2.natAbs ≤ j * B := by
  induction j with
  | zero => simp [sway]
  | succ j ih =>
    obtain ⟨h1, h2⟩ := rot_abs q _ _ _ ih.1 ih.2
    have e : (j + 1) * B = j * B + B := by rw [Nat.add_mul]; omega
    rw [e]
    unfold sway
    constructor
    · have := Int.natAbs_add_le (rot q (sway q x y j).1 (sway q x y j).2).1 x; simp only; omega
    · have := Int.natAbs_add_le (rot q (sway q x y j).1 (sway q x y j).2).2 y; simp only; omega
/-- how many turns make none -/
def kq (q : Nat) : Nat := match q with | 0 => 1 | 2 => 2 | _ => 4
theorem kq_le {q : Nat} (h : q < 4) : 1 ≤ kq q ∧ kq q ≤ 4 := by
  have : q = 0 ∨ q = 1 ∨ q = 2 ∨ q = 3 := by omega
  rcases this with rfl | rfl | rfl | rfl <;> decide
theorem kq_full {q : Nat} (h : q < 4) : (q * kq q) % 4 = 0 := by
  have : q = 0 ∨ q = 1 ∨ q = 2 ∨ q = 3 := by omega
  rcases this with rfl | rfl | rfl | rfl <;> decide
theorem kq_least {q j : Nat} (h : q < 4) (h1 : 1 ≤ j) (h2 : j < kq q) : (q * j) % 4 ≠ 0 := by
  have h3 := (kq_le h).2
  have : j = 1 ∨ j = 2 ∨ j = 3 := by omega
  have : q = 0 ∨ q = 1 ∨ q = 2 ∨ q = 3 := by omega
  rcases this with rfl | rfl | rfl | rfl <;> rcases ‹j = 1 ∨ j = 2 ∨ j = 3› with rfl | rfl | rfl <;> revert h2 <;> decide
theorem unit_mod (k : Nat) : uq (k % 4) = uq k ∧ vq (k % 4) = vq k := ⟨congrArg Prod.fst (rot_mod k 1 0), congrArg Prod.snd (rot_mod k 1 0)⟩
theorem unit_at (k : Nat) : decide (uq k = 1) = decide (k % 4 = 0) := by rw [← (unit_mod k).1]; exact unit_is (by omega)
theorem unit_at0 {k : Nat} (h : k % 4 = 0) : vq k = 0 := by rw [← (unit_mod k).2, h]; rfl
theorem sway_full {q : Nat} (h : q < 4) (x y : Int) : sway q x y (kq q) = if q = 0 then (x, y) else (0, 0) := by
  have : q = 0 ∨ q = 1 ∨ q = 2 ∨ q = 3 := by omega
  rcases this with rfl | rfl | rfl | rfl <;> simp [sway, kq, rot] <;> omega
/-- how often a motion is done to be none -/
def mord (n x y : Int) : Int := if qr n = 0 then (if fx x = 0 ∧ fx y = 0 then 1 else 0) else (kq (qr n) : Int)

set_option maxHeartbeats 2000000 in
theorem morder_any (n x y : Int) (w : World) : Calls Try.prog 25 #[.agg #[.int .i64 n, .int .i64 x, .int .i64 y]] w fun e w' => e = .returned (.int .i64 (mord n x y)) ∧ Below w.heap.size w w' := by
  obtain ⟨v, hv, h1⟩ := reckon_rk n x y
  have hq4 := qr_lt n
  have hX := fx_abs x
  have hY := fx_abs y
  have hord : mord n x y = if qr n = 0 then (if fx x = 0 ∧ fx y = 0 then 1 else 0) else (kq (qr n) : Int) := rfl
  generalize mord n x y = R at *
  generalize fx x = X at *
  generalize fx y = Y at *
  generalize qr n = q at *
  have hv1 := hv
  obtain ⟨a0, b0, c0, d0, rfl, ha0, hb0, hc0, hd0⟩ := hv.is
  have H1 := Lib.hid h1
  clear h1 hv
  have hB : Below w.heap.size w (w.alloc (.cells #[.int .i64 n, .int .i64 x, .int .i64 y] 25)) := (Below.refl _ _).alloc (Nat.le_refl _) _
  go_enter Try.func25, Try.ntmps25
  go_wp2_with fail
  refine wp_scope_goto 0 (fun k a' w' => ∃ (j b1 b2 : Nat) (a b c d : Nat) (t : Int), k = kq q - j ∧ t = j ∧ 1 ≤ j ∧ j ≤ kq q ∧ w.heap.size ≤ b1 ∧ w.heap.size ≤ b2 ∧ b2 ≠ b1 ∧ Cell2 w' b1 (.complex .f64 a0 b0) (.complex .f64 c0 d0) ∧ Cell2 w' b2 (.complex .f64 a b) (.complex .f64 c d) ∧
      Fl a (uq (q * j)) ∧ Fl b (vq (q * j)) ∧ Fl c (sway q X Y j).1 ∧ Fl d (sway q X Y j).2 ∧ Below w.heap.size w w' ∧ ∃ u0 u1 u2 u6 u7 u8 u9 u10 u11 u12 u13 u14 u15 u16 u17 u18 u19 u20, a' = { tmps := #[u0, u1, u2, .pointer (some ⟨b1, 0, none⟩), .pointer (some ⟨b2, 0, none⟩), .int .i64 t, u6, u7, u8, u9, u10, u11, u12, u13, u14, u15, u16, u17, u18, u19, u20], defers := [] }) rfl rfl ?_ ?_
  · clear hB
    rintro k a' w' ⟨j, b1, b2, a, b, c, d, t, rfl, ht, hj1, hj, hb1, hb2, hne, C1, C2, ha, hb, hc, hd, hB, u0, u1, u2, u6, u7, u8, u9, u10, u11, u12, u13, u14, u15, u16, u17, u18, u19, u20, rfl⟩ K hK
    have hk4 := kq_le hq4
    obtain ⟨s1, s2⟩ := sway_abs q X Y _ hX hY j
    have o1 := ord_eq ha one_whole
    have o2 := ord_eq hb zero_whole
    rw [unit_at] at o1
    by_cases hlt : j < kq q
    · rw [decide_eq_false (kq_least hq4 hj1 hlt)] at o1
      clear o2
      have jb : j * 1048576 ≤ 3 * 1048576 := Nat.mul_le_mul_right _ (by omega)
      obtain ⟨B, hBB⟩ : ∃ B : Nat, B = 3145728 := ⟨_, rfl⟩
      have l1 : (sway q X Y j).1.natAbs ≤ B := by omega
      have l2 : (sway q X Y j).2.natAbs ≤ B := by omega
      have l3 : X.natAbs ≤ B := by omega
      have l4 : Y.natAbs ≤ B := by omega
      have l5 : B < 2 ^ 50 := by omega
      obtain ⟨v, hv, h3⟩ := thenr_any (B := B) ⟨a, b, c, d, rfl, ha, hb, hc, hd⟩ hv1 l1 l2 l3 l4 l5
      clear l1 l2 l3 l4 l5 hBB
      obtain ⟨a2, b2', c2, d2, rfl, ha2, hb2', hc2, hd2⟩ := hv.is
      have H3 := Lib.hid h3
      have HT := Lib.hid ht
      have t0 : 0 ≤ t := by omega
      have t4 : t ≤ 4 := by omega
      have F1 := Lib.hid ha2
      have F2 := Lib.hid hb2'
      have F3 := Lib.hid hc2
      have F4 := Lib.hid hd2
      clear h3 ha hb hc hd ha2 hb2' hc2 hd2 hv s1 s2 ht jb
      have u0 := C1.c0
      have u1 := C1.c1
      have v0 := C2.c0
      have v1 := C2.c1
      go_wp2_with (go_at_call 34; refine (H3.out _).mono ?_; rintro e w2 ⟨rfl, hb⟩; clear u0 u1 v0 v1; replace C1 := C1.kept hb; replace C2 := C2.kept hb; replace hB := hB.trans (hb.mono hB.size); clear hb; obtain ⟨v0, v1, z0, z1⟩ := C2)
      go_step3
      have e1 : q * (j + 1) = q * j + q := by rw [Nat.mul_add, Nat.mul_one]
      refine ⟨rfl, hK (kq q - (j + 1)) _ _ (by omega) ⟨j + 1, b1, b2, _, _, _, _, _, rfl, by have := HT.out; omega, by omega, by omega, hb1, hb2, hne, (C1.away _ _ hne).away _ _ hne, (Cell2.mk v0 v1 z0 z1).set _ _, by rw [e1]; exact F1.out, by rw [e1]; exact F2.out, F3.out, F4.out, (hB.setCell (p := ⟨b2, 0, none⟩) hb2 _).setCell (p := ⟨b2, 1, none⟩) hb2 _, _, _, _, _, _, _, _, _, _, _, _, _, _, _, _, _, _, _,  rfl⟩⟩
    · have e : j = kq q := by omega
      subst e
      rw [decide_eq_true (kq_full hq4)] at o1
      rw [decide_eq_true (unit_at0 (kq_full hq4))] at o2
      have o3 := ord_eq hc zero_whole
      have o4 := ord_eq hd zero_whole
      rw [sway_full hq4] at o3 o4
      obtain ⟨u0, u1, _, _⟩ := C1
      obtain ⟨v0, v1, _, _⟩ := C2
      have HT := Lib.hid ht
      clear ha hb hc hd hk4 s1 s2 ht hv1 hj hj1 hlt hK hX hY
      by_cases hq : q = 0
      · subst hq
        rw [if_pos rfl] at hord
        rw [if_pos rfl] at o3 o4
        by_cases hx : X = 0
        · by_cases hy : Y = 0
          · rw [if_pos ⟨hx, hy⟩] at hord
            rw [decide_eq_true hx] at o3
            rw [decide_eq_true hy] at o4
            have HT' := HT.out
            have HO := Lib.hid hord
            clear hord hx hy
            go_wp2
            simp only [Exit.jump]
            go_ret
            exact ⟨ret_i (by rw [HO.out, HT.out]; rfl), hB⟩
          · rw [if_neg (fun h => hy h.2)] at hord
            rw [decide_eq_true hx] at o3
            rw [decide_eq_false hy] at o4
            have HO := Lib.hid hord
            clear hord hx hy
            go_wp2
            simp only [Exit.jump]
            go_ret
            exact ⟨ret_i (by rw [HO.out]), hB⟩
        · rw [if_neg (fun h => hx h.1)] at hord
          rw [decide_eq_false hx] at o3
          have HO := Lib.hid hord
          clear hord hx o4
          go_wp2
          simp only [Exit.jump]
          go_ret
          exact ⟨ret_i (by rw [HO.out]), hB⟩
      · rw [if_neg hq] at hord
        rw [if_neg hq] at o3 o4
        have HO := Lib.hid hord
        clear hord hq
        go_wp2
        simp only [Exit.jump]
        go_ret
        exact ⟨ret_i (by rw [HO.out, HT.out]), hB⟩
  · intro K hpass
    go_wp2_with (go_at_call 27; refine (H1.out _).mono ?_; rintro e w1 ⟨rfl, hb⟩; have hlt := hb.size; simp only [World.size_alloc] at hlt; replace hB := hB.trans (hb.mono hB.size); clear hb)
    go_step3
    rename_i hback
    have C2 := Cell2.new (w1.alloc (.cells #[.complex .f64 a0 b0, .complex .f64 c0 d0] 46)) (.complex .f64 a0 b0) (.complex .f64 c0 d0) 46
    simp only [World.size_alloc] at C2
    have e1 : sway q X Y 1 = (X, Y) := by simp [sway, rot_zero]
    refine hback _ _ (hpass (kq q - 1) _ _ ⟨1, w1.heap.size, w1.heap.size + 1, _, _, _, _, _, rfl, rfl, by omega, (kq_le hq4).1, by omega, by omega, by omega, (Cell2.new w1 _ _ _).alloc _, C2, by rw [Nat.mul_one]; exact ha0, by rw [Nat.mul_one]; exact hb0, by rw [e1]; exact hc0, by rw [e1]; exact hd0, (hB.alloc hB.size _).alloc (by simp; omega) _, _, _, _, _, _, _, _, _, _, _, _, _, _, _, _, _, _, _,  rfl⟩)
end Go.Proofs.Ytgaglplionfdgaa
