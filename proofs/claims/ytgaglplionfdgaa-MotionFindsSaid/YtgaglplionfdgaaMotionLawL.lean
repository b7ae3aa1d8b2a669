/- The walk of the law MotionLaws. -/
import Derived.Test.YtgaglplionfdgaaMotionLaw
namespace Go.Proofs.Ytgaglplionfdgaa
open Go.RowKit

theorem fxe {n : Int} (h : n.natAbs ≤ 1048576) : fx n = n := by unfold fx; omega
theorem smallB_abs {x y : Int} (h : smallB x y 500 = true) : x.natAbs ≤ 500 ∧ y.natAbs ≤ 500 := by
  unfold smallB at h
  have := of_decide_eq_true h
  omega
theorem comp_eq (qa qb : Nat) (p1 p2 x y u v : Int) :
    (rot ((qa + qb) % 4) p1 p2).1 + ((rot qb x y).1 + u) = (rot qb ((rot qa p1 p2).1 + x) ((rot qa p1 p2).2 + y)).1 + u ∧
    (rot ((qa + qb) % 4) p1 p2).2 + ((rot qb x y).2 + v) = (rot qb ((rot qa p1 p2).1 + x) ((rot qa p1 p2).2 + y)).2 + v := by
  rw [rot_mod, Nat.add_comm qa qb, ← rot_add, rot_sum]
  simp only
  omega
theorem rot_back {q : Nat} (h : q < 4) (x y : Int) : rot ((4 - q) % 4) (rot q x y).1 (rot q x y).2 = (x, y) := by
  rw [rot_add, ← rot_mod, show ((4 - q) % 4 + q) % 4 = 0 by omega]; rfl
theorem rot_forth {q : Nat} (h : q < 4) (x y : Int) : rot q (rot ((4 - q) % 4) x y).1 (rot ((4 - q) % 4) x y).2 = (x, y) := by
  rw [rot_add, ← rot_mod, show (q + (4 - q) % 4) % 4 = 0 by omega]; rfl
theorem rot_dif (q : Nat) (x y u v a b : Int) : ((rot q x y).1 + a) - ((rot q u v).1 + a) = (rot q (x - u) (y - v)).1 ∧ ((rot q x y).2 + b) - ((rot q u v).2 + b) = (rot q (x - u) (y - v)).2 := by
  have h := rot_sum q x y (-u) (-v)
  rw [rot_neg] at h
  rw [Int.sub_eq_add_neg, Int.sub_eq_add_neg, Int.sub_eq_add_neg, Int.sub_eq_add_neg, h]
  simp only
  omega
theorem rot_norm (q : Nat) (x y : Int) : (rot q x y).1 * (rot q x y).1 - (rot q x y).2 * -(rot q x y).2 = x * x - y * -y := by
  induction q with
  | zero => rfl
  | succ q ih =>
    rw [← ih, show rot (q + 1) x y = (-(rot q x y).2, (rot q x y).1) from rfl]
    generalize (rot q x y).1 = a
    generalize (rot q x y).2 = b
    simp only
    grind
theorem sz_neg' (x : Int) : sz (-x) = sz x := by unfold sz fx; omega
theorem rot_steps (q : Nat) (x y : Int) : sz (rot q x y).1 + sz (rot q x y).2 = sz x + sz y := by
  induction q with
  | zero => rfl
  | succ q ih =>
    rw [← ih, show rot (q + 1) x y = (-(rot q x y).2, (rot q x y).1) from rfl]
    simp only [sz_neg']
    omega
theorem qr_nat {k : Nat} (h : k < 4) : qr (k : Int) = k := by unfold qr; omega

theorem mdo_s (n x y p1 p2 : Int) (w : World) (hx : x.natAbs ≤ 1048576) (hy : y.natAbs ≤ 1048576) (h1 : p1.natAbs ≤ 1048576) (h2 : p2.natAbs ≤ 1048576) : Calls Try.prog 9 #[.agg #[.int .i64 n, .int .i64 x, .int .i64 y], .agg #[.int .i64 p1, .int .i64 p2]] w fun e w' => e = .returned (.agg #[.int .i64 ((rot (qr n) p1 p2).1 + x), .int .i64 ((rot (qr n) p1 p2).2 + y)]) ∧ Below w.heap.size w w' := by
  have h := mdo_any n x y p1 p2 w
  rw [fxe hx, fxe hy, fxe h1, fxe h2] at h
  exact h
theorem mthen_s (n x y m u v : Int) (w : World) (hx : x.natAbs ≤ 1048576) (hy : y.natAbs ≤ 1048576) (h1 : u.natAbs ≤ 1048576) (h2 : v.natAbs ≤ 1048576) : Calls Try.prog 11 #[.agg #[.int .i64 n, .int .i64 x, .int .i64 y], .agg #[.int .i64 m, .int .i64 u, .int .i64 v]] w fun e w' => e = .returned (.agg #[.int .i64 (((qr n + qr m) % 4 : Nat) : Int), .int .i64 ((rot (qr m) x y).1 + u), .int .i64 ((rot (qr m) x y).2 + v)]) ∧ Below w.heap.size w w' := by
  have h := mthen_any n x y m u v w
  rw [fxe hx, fxe hy, fxe h1, fxe h2] at h
  exact h
theorem rot_le {q : Nat} {x y u v : Int} {B C : Nat} (hx : x.natAbs ≤ B) (hy : y.natAbs ≤ B) (hu : u.natAbs ≤ C) (hv : v.natAbs ≤ C) : ((rot q x y).1 + u).natAbs ≤ B + C ∧ ((rot q x y).2 + v).natAbs ≤ B + C := by
  obtain ⟨h1, h2⟩ := rot_abs q x y B hx hy
  have := Int.natAbs_add_le (rot q x y).1 u
  have := Int.natAbs_add_le (rot q x y).2 v
  omega

/-- all that MotionLaws calls on small motions and points -/
structure LawCalls (a1 a2 a3 b1 b2 b3 c1 c2 c3 p1 p2 q1 q2 : Int) (AB1 AB2 AB3 r1 r2 s1 s2 t1 t2 U1 U2 U3 BC1 BC2 BC3 K1 K2 K3 d1 d2 e1 e2 S N : Int) : Prop where
  thenAB : ∀ w, Calls Try.prog 11 #[.agg #[.int .i64 a1, .int .i64 a2, .int .i64 a3], .agg #[.int .i64 b1, .int .i64 b2, .int .i64 b3]] w fun e w' => e = .returned (.agg #[.int .i64 AB1, .int .i64 AB2, .int .i64 AB3]) ∧ Below w.heap.size w w'
  doAB : ∀ w, Calls Try.prog 9 #[.agg #[.int .i64 AB1, .int .i64 AB2, .int .i64 AB3], .agg #[.int .i64 p1, .int .i64 p2]] w fun e w' => e = .returned (.agg #[.int .i64 r1, .int .i64 r2]) ∧ Below w.heap.size w w'
  doA : ∀ w, Calls Try.prog 9 #[.agg #[.int .i64 a1, .int .i64 a2, .int .i64 a3], .agg #[.int .i64 p1, .int .i64 p2]] w fun e w' => e = .returned (.agg #[.int .i64 s1, .int .i64 s2]) ∧ Below w.heap.size w w'
  doB : ∀ w, Calls Try.prog 9 #[.agg #[.int .i64 b1, .int .i64 b2, .int .i64 b3], .agg #[.int .i64 s1, .int .i64 s2]] w fun e w' => e = .returned (.agg #[.int .i64 r1, .int .i64 r2]) ∧ Below w.heap.size w w'
  thenABC : ∀ w, Calls Try.prog 11 #[.agg #[.int .i64 AB1, .int .i64 AB2, .int .i64 AB3], .agg #[.int .i64 c1, .int .i64 c2, .int .i64 c3]] w fun e w' => e = .returned (.agg #[.int .i64 U1, .int .i64 U2, .int .i64 U3]) ∧ Below w.heap.size w w'
  thenBC : ∀ w, Calls Try.prog 11 #[.agg #[.int .i64 b1, .int .i64 b2, .int .i64 b3], .agg #[.int .i64 c1, .int .i64 c2, .int .i64 c3]] w fun e w' => e = .returned (.agg #[.int .i64 BC1, .int .i64 BC2, .int .i64 BC3]) ∧ Below w.heap.size w w'
  thenA_BC : ∀ w, Calls Try.prog 11 #[.agg #[.int .i64 a1, .int .i64 a2, .int .i64 a3], .agg #[.int .i64 BC1, .int .i64 BC2, .int .i64 BC3]] w fun e w' => e = .returned (.agg #[.int .i64 U1, .int .i64 U2, .int .i64 U3]) ∧ Below w.heap.size w w'
  back : ∀ w, Calls Try.prog 13 #[.agg #[.int .i64 a1, .int .i64 a2, .int .i64 a3]] w fun e w' => e = .returned (.agg #[.int .i64 K1, .int .i64 K2, .int .i64 K3]) ∧ Below w.heap.size w w'
  thenAK : ∀ w, Calls Try.prog 11 #[.agg #[.int .i64 a1, .int .i64 a2, .int .i64 a3], .agg #[.int .i64 K1, .int .i64 K2, .int .i64 K3]] w fun e w' => e = .returned (.agg #[.int .i64 0, .int .i64 0, .int .i64 0]) ∧ Below w.heap.size w w'
  thenKA : ∀ w, Calls Try.prog 11 #[.agg #[.int .i64 K1, .int .i64 K2, .int .i64 K3], .agg #[.int .i64 a1, .int .i64 a2, .int .i64 a3]] w fun e w' => e = .returned (.agg #[.int .i64 0, .int .i64 0, .int .i64 0]) ∧ Below w.heap.size w w'
  doK : ∀ w, Calls Try.prog 9 #[.agg #[.int .i64 K1, .int .i64 K2, .int .i64 K3], .agg #[.int .i64 s1, .int .i64 s2]] w fun e w' => e = .returned (.agg #[.int .i64 p1, .int .i64 p2]) ∧ Below w.heap.size w w'
  doAq : ∀ w, Calls Try.prog 9 #[.agg #[.int .i64 a1, .int .i64 a2, .int .i64 a3], .agg #[.int .i64 q1, .int .i64 q2]] w fun e w' => e = .returned (.agg #[.int .i64 t1, .int .i64 t2]) ∧ Below w.heap.size w w'
  subPQ : ∀ w, Calls Try.prog 20 #[.agg #[.int .i64 p1, .int .i64 p2], .agg #[.int .i64 q1, .int .i64 q2]] w fun e w' => e = .returned (.agg #[.int .i64 d1, .int .i64 d2]) ∧ Below w.heap.size w w'
  subST : ∀ w, Calls Try.prog 20 #[.agg #[.int .i64 s1, .int .i64 s2], .agg #[.int .i64 t1, .int .i64 t2]] w fun e w' => e = .returned (.agg #[.int .i64 e1, .int .i64 e2]) ∧ Below w.heap.size w w'
  steps1 : ∀ w, Calls Try.prog 21 #[.agg #[.int .i64 d1, .int .i64 d2]] w fun e w' => e = .returned (.int .i64 S) ∧ Below w.heap.size w w'
  steps2 : ∀ w, Calls Try.prog 21 #[.agg #[.int .i64 e1, .int .i64 e2]] w fun e w' => e = .returned (.int .i64 S) ∧ Below w.heap.size w w'
  norm1 : ∀ w, Calls Try.prog 22 #[.agg #[.int .i64 d1, .int .i64 d2]] w fun e w' => e = .returned (.int .i64 N) ∧ Below w.heap.size w w'
  norm2 : ∀ w, Calls Try.prog 22 #[.agg #[.int .i64 e1, .int .i64 e2]] w fun e w' => e = .returned (.int .i64 N) ∧ Below w.heap.size w w'

theorem mod_assoc (a b c : Nat) : (a + (b + c) % 4) % 4 = ((a + b) % 4 + c) % 4 := by omega
theorem mod_rest {a : Nat} (h : a < 4) : (a + (4 - a) % 4) % 4 = 0 ∧ ((4 - a) % 4 + a) % 4 = 0 := by omega
theorem mod_lt4 (a : Nat) : a % 4 < 4 := by omega
theorem up5 {z : Int} (h : z.natAbs ≤ 500) : z.natAbs ≤ 1048576 := by omega
theorem up10 {z : Int} (h : z.natAbs ≤ 500 + 500) : z.natAbs ≤ 1048576 := by omega
theorem dif5 {y z : Int} (h : y.natAbs ≤ 500) (h' : z.natAbs ≤ 500) : (y - z).natAbs ≤ 1048576 := by omega
theorem dif10 {y z : Int} (h : y.natAbs ≤ 500 + 500) (h' : z.natAbs ≤ 500 + 500) : (y - z).natAbs ≤ 1048576 := by omega
theorem neg5 {z : Int} (h : z.natAbs ≤ 500) : (-z).natAbs ≤ 500 := by omega
theorem neg_add_self (a : Int) : a + -a = 0 := by omega
theorem neg_add_self' (a : Int) : -a + a = 0 := by omega
theorem add_neg_cancel (p a : Int) : p + a + -a = p := by omega

set_option maxHeartbeats 400000 in
theorem law_calls {a1 a2 a3 b1 b2 b3 c1 c2 c3 p1 p2 q1 q2 : Int} (ha2 : a2.natAbs ≤ 500) (ha3 : a3.natAbs ≤ 500) (hb2 : b2.natAbs ≤ 500) (hb3 : b3.natAbs ≤ 500) (hc2 : c2.natAbs ≤ 500) (hc3 : c3.natAbs ≤ 500)
    (hp1 : p1.natAbs ≤ 500) (hp2 : p2.natAbs ≤ 500) (hq1 : q1.natAbs ≤ 500) (hq2 : q2.natAbs ≤ 500) :
    ∃ AB1 AB2 AB3 r1 r2 s1 s2 t1 t2 U1 U2 U3 BC1 BC2 BC3 K1 K2 K3 d1 d2 e1 e2 S N, LawCalls a1 a2 a3 b1 b2 b3 c1 c2 c3 p1 p2 q1 q2 AB1 AB2 AB3 r1 r2 s1 s2 t1 t2 U1 U2 U3 BC1 BC2 BC3 K1 K2 K3 d1 d2 e1 e2 S N := by
  have kab : qr (((qr a1 + qr b1) % 4 : Nat) : Int) = (qr a1 + qr b1) % 4 := qr_nat (mod_lt4 _)
  have kbc : qr (((qr b1 + qr c1) % 4 : Nat) : Int) = (qr b1 + qr c1) % 4 := qr_nat (mod_lt4 _)
  have kk : qr (((4 - qr a1) % 4 : Nat) : Int) = (4 - qr a1) % 4 := qr_nat (mod_lt4 _)
  have ka := qr_lt a1
  obtain ⟨AB2, hAB2⟩ : ∃ z, (rot (qr b1) a2 a3).1 + b2 = z := ⟨_, rfl⟩
  obtain ⟨AB3, hAB3⟩ : ∃ z, (rot (qr b1) a2 a3).2 + b3 = z := ⟨_, rfl⟩
  obtain ⟨BC2, hBC2⟩ : ∃ z, (rot (qr c1) b2 b3).1 + c2 = z := ⟨_, rfl⟩
  obtain ⟨BC3, hBC3⟩ : ∃ z, (rot (qr c1) b2 b3).2 + c3 = z := ⟨_, rfl⟩
  obtain ⟨s1, hs1⟩ : ∃ z, (rot (qr a1) p1 p2).1 + a2 = z := ⟨_, rfl⟩
  obtain ⟨s2, hs2⟩ : ∃ z, (rot (qr a1) p1 p2).2 + a3 = z := ⟨_, rfl⟩
  obtain ⟨t1, ht1⟩ : ∃ z, (rot (qr a1) q1 q2).1 + a2 = z := ⟨_, rfl⟩
  obtain ⟨t2, ht2⟩ : ∃ z, (rot (qr a1) q1 q2).2 + a3 = z := ⟨_, rfl⟩
  obtain ⟨K2, hK2⟩ : ∃ z, (rot ((4 - qr a1) % 4) (-a2) (-a3)).1 = z := ⟨_, rfl⟩
  obtain ⟨K3, hK3⟩ : ∃ z, (rot ((4 - qr a1) % 4) (-a2) (-a3)).2 = z := ⟨_, rfl⟩
  have lAB := rot_le (q := qr b1) ha2 ha3 hb2 hb3
  have lBC := rot_le (q := qr c1) hb2 hb3 hc2 hc3
  have ls := rot_le (q := qr a1) hp1 hp2 ha2 ha3
  have lt := rot_le (q := qr a1) hq1 hq2 ha2 ha3
  have lK := rot_abs ((4 - qr a1) % 4) (-a2) (-a3) 500 (neg5 ha2) (neg5 ha3)
  have ed := rot_dif (qr a1) p1 p2 q1 q2 a2 a3
  rw [hs1, hs2, ht1, ht2] at ed
  rw [hAB2, hAB3] at lAB
  rw [hBC2, hBC3] at lBC
  rw [hs1, hs2] at ls
  rw [ht1, ht2] at lt
  rw [hK2, hK3] at lK
  have thenAB := fun w => mthen_s a1 a2 a3 b1 b2 b3 w (up5 ha2) (up5 ha3) (up5 hb2) (up5 hb3)
  have thenBC := fun w => mthen_s b1 b2 b3 c1 c2 c3 w (up5 hb2) (up5 hb3) (up5 hc2) (up5 hc3)
  have doA := fun w => mdo_s a1 a2 a3 p1 p2 w (up5 ha2) (up5 ha3) (up5 hp1) (up5 hp2)
  have doAq := fun w => mdo_s a1 a2 a3 q1 q2 w (up5 ha2) (up5 ha3) (up5 hq1) (up5 hq2)
  have back := fun w => mback_any a1 a2 a3 w
  rw [fxe (n := a2) (up5 ha2), fxe (n := a3) (up5 ha3), hK2, hK3] at back
  rw [hAB2, hAB3] at thenAB
  rw [hBC2, hBC3] at thenBC
  rw [hs1, hs2] at doA
  rw [ht1, ht2] at doAq
  have doAB := fun w => mdo_s (((qr a1 + qr b1) % 4 : Nat) : Int) AB2 AB3 p1 p2 w (up10 lAB.1) (up10 lAB.2) (up5 hp1) (up5 hp2)
  have doB := fun w => mdo_s b1 b2 b3 s1 s2 w (up5 hb2) (up5 hb3) (up10 ls.1) (up10 ls.2)
  have E1 := comp_eq (qr a1) (qr b1) p1 p2 a2 a3 b2 b3
  rw [hAB2, hAB3, hs1, hs2] at E1
  rw [kab, E1.1, E1.2] at doAB
  have thenABC := fun w => mthen_s (((qr a1 + qr b1) % 4 : Nat) : Int) AB2 AB3 c1 c2 c3 w (up10 lAB.1) (up10 lAB.2) (up5 hc2) (up5 hc3)
  have thenA_BC := fun w => mthen_s a1 a2 a3 (((qr b1 + qr c1) % 4 : Nat) : Int) BC2 BC3 w (up5 ha2) (up5 ha3) (up10 lBC.1) (up10 lBC.2)
  have E2 := comp_eq (qr b1) (qr c1) a2 a3 b2 b3 c2 c3
  rw [hAB2, hAB3, hBC2, hBC3] at E2
  rw [kbc, E2.1, E2.2, mod_assoc (qr a1) (qr b1) (qr c1)] at thenA_BC
  rw [kab] at thenABC
  have thenAK := fun w => mthen_s a1 a2 a3 (((4 - qr a1) % 4 : Nat) : Int) K2 K3 w (up5 ha2) (up5 ha3) (up5 lK.1) (up5 lK.2)
  have thenKA := fun w => mthen_s (((4 - qr a1) % 4 : Nat) : Int) K2 K3 a1 a2 a3 w (up5 lK.1) (up5 lK.2) (up5 ha2) (up5 ha3)
  have doK := fun w => mdo_s (((4 - qr a1) % 4 : Nat) : Int) K2 K3 s1 s2 w (up5 lK.1) (up5 lK.2) (up10 ls.1) (up10 ls.2)
  have n1 := rot_neg ((4 - qr a1) % 4) a2 a3
  have m1 : (rot ((4 - qr a1) % 4) a2 a3).1 + K2 = 0 := by rw [← hK2, n1]; exact neg_add_self _
  have m2 : (rot ((4 - qr a1) % 4) a2 a3).2 + K3 = 0 := by rw [← hK3, n1]; exact neg_add_self _
  have f1 := rot_forth ka (-a2) (-a3)
  rw [hK2, hK3] at f1
  have m3 : (rot (qr a1) K2 K3).1 + a2 = 0 := by rw [f1]; exact neg_add_self' _
  have m4 : (rot (qr a1) K2 K3).2 + a3 = 0 := by rw [f1]; exact neg_add_self' _
  rw [kk, m1, m2, (mod_rest ka).1] at thenAK
  rw [kk, m3, m4, (mod_rest ka).2] at thenKA
  have f2 : rot ((4 - qr a1) % 4) s1 s2 = (p1 + (rot ((4 - qr a1) % 4) a2 a3).1, p2 + (rot ((4 - qr a1) % 4) a2 a3).2) := by
    rw [← hs1, ← hs2, rot_sum, rot_back ka]
  have m5 : (rot ((4 - qr a1) % 4) s1 s2).1 + K2 = p1 := by rw [f2, ← hK2, n1]; exact add_neg_cancel _ _
  have m6 : (rot ((4 - qr a1) % 4) s1 s2).2 + K3 = p2 := by rw [f2, ← hK3, n1]; exact add_neg_cancel _ _
  rw [kk, m5, m6] at doK
  have subPQ := fun w => sub_any p1 p2 q1 q2 w
  rw [fxe (n := p1) (up5 hp1), fxe (n := p2) (up5 hp2), fxe (n := q1) (up5 hq1), fxe (n := q2) (up5 hq2)] at subPQ
  have subST := fun w => sub_any s1 s2 t1 t2 w
  rw [fxe (n := s1) (up10 ls.1), fxe (n := s2) (up10 ls.2), fxe (n := t1) (up10 lt.1), fxe (n := t2) (up10 lt.2)] at subST
  have steps1 := fun w => steps_any (p1 - q1) (p2 - q2) w
  have steps2 := fun w => steps_any (s1 - t1) (s2 - t2) w
  have norm1 := fun w => norm_any (p1 - q1) (p2 - q2) w
  have norm2 := fun w => norm_any (s1 - t1) (s2 - t2) w
  rw [fxe (n := p1 - q1) (dif5 hp1 hq1), fxe (n := p2 - q2) (dif5 hp2 hq2)] at norm1
  rw [fxe (n := s1 - t1) (dif10 ls.1 lt.1), fxe (n := s2 - t2) (dif10 ls.2 lt.2)] at norm2
  rw [show sz (s1 - t1) + sz (s2 - t2) = sz (p1 - q1) + sz (p2 - q2) by rw [ed.1, ed.2]; exact rot_steps _ _ _] at steps2
  rw [show (s1 - t1) * (s1 - t1) - (s2 - t2) * -(s2 - t2) = (p1 - q1) * (p1 - q1) - (p2 - q2) * -(p2 - q2) by rw [ed.1, ed.2]; exact rot_norm _ _ _] at norm2
  exact ⟨_, _, _, _, _, _, _, _, _, _, _, _, _, _, _, _, _, _, _, _, _, _, _, _, ⟨thenAB, doAB, doA, doB, thenABC, thenBC, thenA_BC, back, thenAK, thenKA, doK, doAq, subPQ, subST, steps1, steps2, norm1, norm2⟩⟩
end Go.Proofs.Ytgaglplionfdgaa
