/- The walk of the law MotionFinds. -/
import Derived.Test.YtgaglplionfdgaaMotionLawF
namespace Go.Proofs.Ytgaglplionfdgaa
open Go.RowKit

structure FindCalls (n x y p1 p2 q1 q2 : Int) (r1 r2 s1 s2 t A1 A2 F1 X Y n0 : Int) (b : Bool) : Prop where
  doP : ∀ w, Calls Try.prog 9 #[.agg #[.int .i64 n, .int .i64 x, .int .i64 y], .agg #[.int .i64 p1, .int .i64 p2]] w fun e w' => e = .returned (.agg #[.int .i64 r1, .int .i64 r2]) ∧ Below w.heap.size w w'
  doQ : ∀ w, Calls Try.prog 9 #[.agg #[.int .i64 n, .int .i64 x, .int .i64 y], .agg #[.int .i64 q1, .int .i64 q2]] w fun e w' => e = .returned (.agg #[.int .i64 s1, .int .i64 s2]) ∧ Below w.heap.size w w'
  btw : ∀ w, Calls Try.prog 23 #[.agg #[.int .i64 p1, .int .i64 p2], .agg #[.int .i64 q1, .int .i64 q2], .agg #[.int .i64 r1, .int .i64 r2], .agg #[.int .i64 s1, .int .i64 s2]] w fun e w' => e = .returned (.tuple #[.agg #[.int .i64 t, .int .i64 A1, .int .i64 A2], .bool true]) ∧ Below w.heap.size w w'
  doAP : ∀ w, Calls Try.prog 9 #[.agg #[.int .i64 t, .int .i64 A1, .int .i64 A2], .agg #[.int .i64 p1, .int .i64 p2]] w fun e w' => e = .returned (.agg #[.int .i64 r1, .int .i64 r2]) ∧ Below w.heap.size w w'
  doAQ : ∀ w, Calls Try.prog 9 #[.agg #[.int .i64 t, .int .i64 A1, .int .i64 A2], .agg #[.int .i64 q1, .int .i64 q2]] w fun e w' => e = .returned (.agg #[.int .i64 s1, .int .i64 s2]) ∧ Below w.heap.size w w'
  fix : ∀ w, Calls Try.prog 7 #[.agg #[.int .i64 n, .int .i64 x, .int .i64 y]] w fun e w' => e = .returned (.agg #[.int .i64 F1, .int .i64 x, .int .i64 y]) ∧ Below w.heap.size w w'
  still : ∀ w, Calls Try.prog 24 #[.agg #[.int .i64 n, .int .i64 x, .int .i64 y]] w fun e w' => e = .returned (.tuple #[.agg #[.int .i64 X, .int .i64 Y], .bool b]) ∧ Below w.heap.size w w'
  doX : b = true → ∀ w, Calls Try.prog 9 #[.agg #[.int .i64 n, .int .i64 x, .int .i64 y], .agg #[.int .i64 X, .int .i64 Y]] w fun e w' => e = .returned (.agg #[.int .i64 X, .int .i64 Y]) ∧ Below w.heap.size w w'
  order : ∀ w, Calls Try.prog 25 #[.agg #[.int .i64 n, .int .i64 x, .int .i64 y]] w fun e w' => e = .returned (.int .i64 n0) ∧ Below w.heap.size w w'
  same : (p1 = q1 ∧ p2 = q2 ∧ r1 = s1 ∧ r2 = s2) ∨ ((p1 ≠ q1 ∨ p2 ≠ q2) ∧ t = F1 ∧ A1 = x ∧ A2 = y)
  uniq : b = true → (p1 = X ∧ p2 = Y) ∨ ((p1 ≠ X ∨ p2 ≠ Y) ∧ (r1 ≠ p1 ∨ r2 ≠ p2))
  times : ∀ k : Nat, 1 ≤ k → k ≤ 4 → ∃ T U V : Int, (∀ w, Calls Try.prog 16 #[.agg #[.int .i64 n, .int .i64 x, .int .i64 y], .int .i64 k] w fun e w' => e = .returned (.agg #[.int .i64 T, .int .i64 U, .int .i64 V]) ∧ Below w.heap.size w w') ∧
    (((T = 0 ∧ U = 0 ∧ V = 0) ∧ 0 < n0 ∧ n0 ≤ 4 ∧ (k : Int) % n0 = 0) ∨ ((T ≠ 0 ∨ U ≠ 0 ∨ V ≠ 0) ∧ (n0 = 0 ∨ (0 < n0 ∧ n0 ≤ 4 ∧ 0 < (k : Int) % n0))))

theorem rot_still {q : Nat} (h : q < 4) (h0 : q ≠ 0) {x y u v a b : Int} (h1 : (rot q x y).1 + a = x) (h2 : (rot q x y).2 + b = y) (h3 : (rot q u v).1 + a = u) (h4 : (rot q u v).2 + b = v) : x = u ∧ y = v := by
  have : q = 1 ∨ q = 2 ∨ q = 3 := by omega
  rcases this with rfl | rfl | rfl <;> simp [rot] at h1 h2 h3 h4 <;> omega
theorem add_sub_self (a b : Int) : a + (b - a) = b := by omega
theorem add_sub_back (a b : Int) : a + b - a = b := by omega

theorem find_calls {n x y p1 p2 q1 q2 : Int} (hx : x.natAbs ≤ 500) (hy : y.natAbs ≤ 500) (hp1 : p1.natAbs ≤ 500) (hp2 : p2.natAbs ≤ 500) (hq1 : q1.natAbs ≤ 500) (hq2 : q2.natAbs ≤ 500) :
    ∃ r1 r2 s1 s2 t A1 A2 F1 X Y n0 b, FindCalls n x y p1 p2 q1 q2 r1 r2 s1 s2 t A1 A2 F1 X Y n0 b := by
  have hq4 := qr_lt n
  have doP := fun w => mdo_s n x y p1 p2 w (up5 hx) (up5 hy) (up5 hp1) (up5 hp2)
  have doQ := fun w => mdo_s n x y q1 q2 w (up5 hx) (up5 hy) (up5 hq1) (up5 hq2)
  have fix := fun w => mfix_any n x y w
  rw [fxe (up5 hx), fxe (up5 hy)] at fix
  have still := fun w => mstill_any n x y w
  have order := fun w => morder_any n x y w
  have lr := rot_le (q := qr n) hp1 hp2 hx hy
  have ls := rot_le (q := qr n) hq1 hq2 hx hy
  have ed := rot_dif (qr n) q1 q2 p1 p2 x y
  -- who stays
  have hst := st_abs (q := qr n) hx hy
  have sbx : sb n x y = true → qr n ≠ 0 ∧ ((rot (qr n) (sx n x y) (sy n x y)).1 + x = sx n x y ∧ (rot (qr n) (sx n x y) (sy n x y)).2 + y = sy n x y) ∧ (sx n x y).natAbs ≤ 1048576 ∧ (sy n x y).natAbs ≤ 1048576 := by
    intro hb
    have ex : sx n x y = stx (qr n) (fx x) (fx y) := by unfold sx; rw [if_pos hb]
    have ey : sy n x y = sty (qr n) (fx x) (fx y) := by unfold sy; rw [if_pos hb]
    have h := of_decide_eq_true hb
    rw [← ex, ← ey] at h
    rw [fxe (up5 hx), fxe (up5 hy)] at ex ey
    rw [← ex, ← ey] at hst
    unfold dox doy at h
    rw [fxe hst.1, fxe hst.2, fxe (up5 hx), fxe (up5 hy)] at h
    exact ⟨h.1, h.2, hst⟩
  have doX : sb n x y = true → ∀ w, Calls Try.prog 9 #[.agg #[.int .i64 n, .int .i64 x, .int .i64 y], .agg #[.int .i64 (sx n x y), .int .i64 (sy n x y)]] w fun e w' => e = .returned (.agg #[.int .i64 (sx n x y), .int .i64 (sy n x y)]) ∧ Below w.heap.size w w' := by
    intro hb w
    obtain ⟨h0, ⟨h1, h2⟩, h3, h4⟩ := sbx hb
    have h := mdo_s n x y (sx n x y) (sy n x y) w (up5 hx) (up5 hy) h3 h4
    rw [h1, h2] at h
    exact h
  have uniq : sb n x y = true → (p1 = sx n x y ∧ p2 = sy n x y) ∨ ((p1 ≠ sx n x y ∨ p2 ≠ sy n x y) ∧ ((rot (qr n) p1 p2).1 + x ≠ p1 ∨ (rot (qr n) p1 p2).2 + y ≠ p2)) := by
    intro hb
    obtain ⟨h0, ⟨h1, h2⟩, _, _⟩ := sbx hb
    by_cases e1 : p1 = sx n x y
    · by_cases e2 : p2 = sy n x y
      · exact .inl ⟨e1, e2⟩
      · refine .inr ⟨.inr e2, ?_⟩
        by_cases g1 : (rot (qr n) p1 p2).1 + x = p1
        · by_cases g2 : (rot (qr n) p1 p2).2 + y = p2
          · exact absurd (rot_still hq4 h0 g1 g2 h1 h2).2 e2
          · exact .inr g2
        · exact .inl g1
    · refine .inr ⟨.inl e1, ?_⟩
      by_cases g1 : (rot (qr n) p1 p2).1 + x = p1
      · by_cases g2 : (rot (qr n) p1 p2).2 + y = p2
        · exact absurd (rot_still hq4 h0 g1 g2 h1 h2).1 e1
        · exact .inr g2
      · exact .inl g1
  have times : ∀ k : Nat, 1 ≤ k → k ≤ 4 → ∃ T U V : Int, (∀ w, Calls Try.prog 16 #[.agg #[.int .i64 n, .int .i64 x, .int .i64 y], .int .i64 k] w fun e w' => e = .returned (.agg #[.int .i64 T, .int .i64 U, .int .i64 V]) ∧ Below w.heap.size w w') ∧
      (((T = 0 ∧ U = 0 ∧ V = 0) ∧ 0 < mord n x y ∧ mord n x y ≤ 4 ∧ (k : Int) % mord n x y = 0) ∨ ((T ≠ 0 ∨ U ≠ 0 ∨ V ≠ 0) ∧ (mord n x y = 0 ∨ (0 < mord n x y ∧ mord n x y ≤ 4 ∧ 0 < (k : Int) % mord n x y)))) := by
    intro k h1 h4
    have h := fun w => mtimes_any n x y k w
    have e : (min (k : Int) 1000).toNat = k := by omega
    rw [e] at h
    refine ⟨_, _, _, h, ?_⟩
    rcases times_is n x y hx hy k h1 h4 with ⟨hz, hr⟩ | ⟨hz, hr⟩
    · exact .inl ⟨by rw [hz]; exact ⟨rfl, rfl, rfl⟩, hr⟩
    · refine .inr ⟨?_, hr⟩
      by_cases e1 : (mst n x y k).1 = 0
      · by_cases e2 : (mst n x y k).2.1 = 0
        · exact .inr (.inr fun e3 => hz (Prod.ext e1 (Prod.ext e2 e3)))
        · exact .inr (.inl e2)
      · exact .inl e1
  by_cases hpq : p1 = q1 ∧ p2 = q2
  · obtain ⟨rfl, rfl⟩ := hpq
    have btw := fun w => mbetween_at p1 p2 p1 p2 ((rot (qr n) p1 p2).1 + x) ((rot (qr n) p1 p2).2 + y) ((rot (qr n) p1 p2).1 + x) ((rot (qr n) p1 p2).2 + y) 0 (by decide) (by rw [Int.sub_self, Int.sub_self, Int.sub_self, Int.sub_self]; rfl) (fun j hj => absurd hj (Nat.not_lt_zero j)) w
    rw [fxe (up10 lr.1), fxe (up10 lr.2), fxe (up5 hp1), fxe (up5 hp2)] at btw
    have hA : ((rot (qr n) p1 p2).1 + x - (rot 0 p1 p2).1).natAbs ≤ 1048576 ∧ ((rot (qr n) p1 p2).2 + y - (rot 0 p1 p2).2).natAbs ≤ 1048576 := ⟨dif10 lr.1 (three500 hp1), dif10 lr.2 (three500 hp2)⟩
    have doAP := fun w => mdo_s ((0 : Nat) : Int) ((rot (qr n) p1 p2).1 + x - (rot 0 p1 p2).1) ((rot (qr n) p1 p2).2 + y - (rot 0 p1 p2).2) p1 p2 w hA.1 hA.2 (up5 hp1) (up5 hp2)
    rw [show qr ((0 : Nat) : Int) = 0 from rfl, add_sub_self, add_sub_self] at doAP
    exact ⟨_, _, _, _, _, _, _, _, _, _, _, _, ⟨doP, doQ, btw, doAP, doAP, fix, still, doX, order, .inl ⟨rfl, rfl, rfl, rfl⟩, uniq, times⟩⟩
  · have hne : p1 ≠ q1 ∨ p2 ≠ q2 := by
      by_cases e1 : p1 = q1
      · exact .inr fun e2 => hpq ⟨e1, e2⟩
      · exact .inl e1
    have hyes : rot (qr n) (q1 - p1) (q2 - p2) = ((rot (qr n) q1 q2).1 + x - ((rot (qr n) p1 p2).1 + x), (rot (qr n) q1 q2).2 + y - ((rot (qr n) p1 p2).2 + y)) := by rw [ed.1, ed.2]
    have hno : ∀ j, j < qr n → rot j (q1 - p1) (q2 - p2) ≠ ((rot (qr n) q1 q2).1 + x - ((rot (qr n) p1 p2).1 + x), (rot (qr n) q1 q2).2 + y - ((rot (qr n) p1 p2).2 + y)) := by
      intro j hj h
      rw [← hyes] at h
      obtain ⟨e1, e2⟩ := rot_apart hj hq4 h
      exact hpq ⟨(sub_zero' e1).symm, (sub_zero' e2).symm⟩
    have btw := fun w => mbetween_at p1 p2 q1 q2 ((rot (qr n) p1 p2).1 + x) ((rot (qr n) p1 p2).2 + y) ((rot (qr n) q1 q2).1 + x) ((rot (qr n) q1 q2).2 + y) (qr n) hq4 (by rw [fxe (up10 lr.1), fxe (up10 lr.2), fxe (up10 ls.1), fxe (up10 ls.2), fxe (up5 hp1), fxe (up5 hp2), fxe (up5 hq1), fxe (up5 hq2)]; exact hyes)
      (by rw [fxe (up10 lr.1), fxe (up10 lr.2), fxe (up10 ls.1), fxe (up10 ls.2), fxe (up5 hp1), fxe (up5 hp2), fxe (up5 hq1), fxe (up5 hq2)]; exact hno) w
    rw [fxe (up10 lr.1), fxe (up10 lr.2), fxe (up5 hp1), fxe (up5 hp2), add_sub_back, add_sub_back] at btw
    have doAP := fun w => mdo_s ((qr n : Nat) : Int) x y p1 p2 w (up5 hx) (up5 hy) (up5 hp1) (up5 hp2)
    have doAQ := fun w => mdo_s ((qr n : Nat) : Int) x y q1 q2 w (up5 hx) (up5 hy) (up5 hq1) (up5 hq2)
    rw [qr_qr] at doAP doAQ
    exact ⟨_, _, _, _, _, _, _, _, _, _, _, _, ⟨doP, doQ, btw, doAP, doAQ, fix, still, doX, order, .inr ⟨hne, rfl, rfl, rfl⟩, uniq, times⟩⟩
end Go.Proofs.Ytgaglplionfdgaa
