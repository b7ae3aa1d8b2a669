/- The walks of the document's answers for layer 6: how much it holds. -/
import Derived.Test.YthndmoipemnllaaFenceRefB
namespace Go.Proofs.Ythndmoipemnllaa
open Go.RowKit
attribute [local go_sem high] field_x field_y

theorem small_mul {x y : Int} (h1 : -1048576 ≤ x ∧ x ≤ 1048576) (h2 : -1048576 ≤ y ∧ y ≤ 1048576) : -1099511627776 ≤ x * y ∧ x * y ≤ 1099511627776 := by
  have hx : x.natAbs ≤ 1048576 := by omega
  have hy : y.natAbs ≤ 1048576 := by omega
  have h : (x * y).natAbs ≤ 1048576 * 1048576 := by rw [Int.natAbs_mul]; exact Nat.mul_le_mul hx hy
  omega
theorem smallP_bd {p : Int × Int} (h : smallP p 1048576 = true) : (-1048576 ≤ p.1 ∧ p.1 ≤ 1048576) ∧ (-1048576 ≤ p.2 ∧ p.2 ≤ 1048576) := by
  unfold smallP at h
  simp only [decide_eq_true_eq] at h
  exact ⟨⟨h.1, h.2.1⟩, h.2.2.1, h.2.2.2⟩
/-- the sum so far -/
def carea (l : List (Int × Int)) (k : Nat) : Int := sumN (fun i => crs (pat l i) (nxt l i)) k
theorem carea_bd {l : List (Int × Int)} (h : Right l) (k : Nat) (hk : k ≤ l.length) : -(2199023255552 * (k : Int)) ≤ carea l k ∧ carea l k ≤ 2199023255552 * (k : Int) := by
  induction k with
  | zero => simp [carea, sumN]
  | succ k ih =>
    have h0 := ih (by omega)
    have e : carea l (k + 1) = carea l k + crs (pat l k) (nxt l k) := rfl
    have ha := smallP_bd (h.2.2.1 k (by omega))
    have hb := smallP_bd (h.2.2.1 ((k + 1) % l.length) (Nat.mod_lt _ (by omega)))
    have p1 := small_mul ha.1 hb.2
    have p2 := small_mul ha.2 hb.1
    have e2 : crs (pat l k) (nxt l k) = (pat l k).1 * (pat l ((k + 1) % l.length)).2 - (pat l k).2 * (pat l ((k + 1) % l.length)).1 := rfl
    omega
/-- a fence's area -/
def fen (l : List (Int × Int)) : Int := if rightB l = true then (area2 l).tdiv 2 else 0

set_option maxHeartbeats 4000000 in
set_option maxRecDepth 100000 in
theorem refArea_any (va : Value) (l : List (Int × Int)) (w : World) (ha : PairsAt w va l) (hl : l.length ≤ 1000000) :
    Calls Try.prog 18 #[va] w fun e w' => e = .returned (.int .i64 (fen l)) ∧ Below w.heap.size w w' := by
  have HA := Lib.hid ha
  have hform : ∃ a c, va = .slice a l.length c := by obtain ⟨a, c, e, _⟩ := ha; exact ⟨a, c, e⟩
  obtain ⟨a, c, rfl⟩ := hform
  have hr := fun w ha => refRight_any (.slice a l.length c) l w ha hl
  clear ha
  obtain ⟨b, hb⟩ : ∃ b, rightB l = b := ⟨_, rfl⟩
  rw [hb] at hr
  have HR := Lib.hid hr
  clear hr
  have hB : Below w.heap.size w w := Below.refl _ _
  go_enter Try.func18, Try.ntmps18
  cases b with
  | false =>
    have e : fen l = 0 := if_neg (by rw [hb]; decide)
    rw [e]
    clear hb
    go_wp2_with (go_at_call 11; (with_reducible refine (HR.out _ HA.out).mono ?_); rintro e w1 ⟨rfl, hb⟩; replace hB := hB.trans (hb.mono hB.size); clear hb)
    go_ret
    exact ⟨rfl, hB⟩
  | true =>
    have hR := (rightB_iff l).1 hb
    have e : fen l = (carea l l.length).tdiv 2 := if_pos hb
    have hlen := hR.2.1
    have hlen4 := hR.1
    have HBD := Lib.hid (carea_bd hR)
    have HSM := Lib.hid hR.2.2.1
    clear hb hR
    go_wp2_with (go_at_call 11; (with_reducible refine (HR.out _ HA.out).mono ?_); rintro e w1 ⟨rfl, hb⟩; replace hB := hB.trans (hb.mono hB.size); clear hb)
    rename_i w1
    go_loopw [3, 4, 5, 6] (fun s i _ _ wr => ∃ k : Nat, k ≤ l.length ∧ i = .int .i64 k ∧ s = .int .i64 (carea l k) ∧ Below w.heap.size w wr) (fun _ i _ _ _ => l.length - (intOf i).toNat)
    case atStart => exact ⟨0, Nat.zero_le _, rfl, rfl, hB⟩
    case round =>
      clear hB
      obtain ⟨k, hk, rfl, rfl, hB⟩ := hrel
      obtain ⟨t, ht⟩ : ∃ t, carea l k = t := ⟨_, rfl⟩
      by_cases hlt : k < l.length
      · have b0 := HBD.out k hk
        rw [ht] at b0 ⊢
        have hnx := fun w ha => refNext_any (.slice a l.length c) l k w ha hlt hl
        have HAR := Lib.hid (HA.out.kept (hB.mono (Nat.le_refl _)))
        have h1 := smallP_bd (HSM.out k hlt)
        have h2 : (-1048576 ≤ (nxt l k).1 ∧ (nxt l k).1 ≤ 1048576) ∧ (-1048576 ≤ (nxt l k).2 ∧ (nxt l k).2 ≤ 1048576) := smallP_bd (HSM.out ((k + 1) % l.length) (Nat.mod_lt _ (by omega)))
        have hs : carea l (k + 1) = t + crs (pat l k) (nxt l k) := by rw [← ht]; rfl
        obtain ⟨g, o, c', ev, hc, hg, p1, p2⟩ := HAR.out.spot k hlt
        cases ev
        generalize pat l k = p at *
        generalize nxt l k = q at *
        obtain ⟨x1, y1⟩ := p
        obtain ⟨x2, y2⟩ := q
        simp only at p1 p2 h1 h2 hnx
        have m1 := small_mul h1.1 h2.2
        have m2 := small_mul h1.2 h2.1
        have Q0 : -1099511627776 ≤ x1 * y2 := m1.1
        have Q1 : x1 * y2 ≤ 1099511627776 := m1.2
        have R0 : -1099511627776 ≤ y1 * x2 := m2.1
        have R1 : y1 * x2 ≤ 1099511627776 := m2.2
        have hs : carea l (k + 1) = t + x1 * y2 - y1 * x2 := by rw [hs]; unfold crs; simp only; omega
        have T0 : -2199023255552000 ≤ t := by omega
        have T1 : t ≤ 2199023255552000 := by omega
        have HS := Lib.hid hs
        have HN := Lib.hid hnx
        clear hs hnx m1 m2 b0
        have j0 : (0 : Int) ≤ (k : Int) := by omega
        have j1 : (k : Int) < (l.length : Int) := by omega
        go_wp2
        refine wp_region_calmN 7 9 [(.cells #[.int .i64 0, .int .i64 0] 23, fun b => .pointer (some ⟨b, 0, none⟩)), (.cells #[.int .i64 0, .int .i64 0] 23, fun b => .pointer (some ⟨b, 0, none⟩))] (by kernel_rfl) (by simp) (by simp) (by kernel_rfl) fun M => ?_
        simp only [List.take_succ_cons, List.take_zero, List.drop_succ_cons, List.drop_zero, List.length_cons, List.length_nil, List.take_nil]
        have HP := Lib.hid fun n : In M.w => (HAR.out.kept M.h).kept n.h
        have q1 := fun n : In M.w => n.cell (M.cell p1)
        have q2 := fun n : In M.w => n.cell (M.cell p2)
        repeat (go_big_quiet_step ((go_at_call 35; with_reducible exact In.call (HN.out _ (HP.out _)))))
        refine wpQuiet_nil ?_
        clear HP q1 q2 M
        refine ⟨rfl, fun n => by simp [go_sem], fun u hu _ => ⟨rfl, fun n => by simp [go_sem], fun v hv hvu w2 hw => ?_⟩⟩
        have hne : v ≠ u := fun e => by rw [e, Gh.set_self] at hvu; cases hvu
        have hb := hw.below
        have C1 : Cell2 w2 u (.int .i64 0) (.int .i64 0) := Cell2.of_heap (hw.own u _ (by rw [Gh.set_ne _ (Ne.symm hne)]; exact Gh.set_self _ _ _))
        have C2 : Cell2 w2 v (.int .i64 0) (.int .i64 0) := Cell2.of_heap (hw.own v _ (Gh.set_self _ _ _))
        have hB2 : Below w.heap.size w w2 := hB.trans (hb.mono hB.size)
        have hu' : w.heap.size ≤ u := Nat.le_trans hB.size hu
        have hv' : w.heap.size ≤ v := Nat.le_trans hB.size hv
        clear hb hw hvu p1 p2 hB HAR
        obtain ⟨c10, c11, z10, z11⟩ := C1
        obtain ⟨c20, c21, z20, z21⟩ := C2
        have n5 : u ≠ v := Ne.symm hne
        go_wp2
        go_roundw
        case rel =>
          exact ⟨k + 1, by omega, by go_num, by rw [HS.out], (((hB2.setCell (by simp; omega) _).setCell (by simp; omega) _).setCell (by simp; omega) _).setCell (by simp; omega) _⟩
        case measure => simp [intOf]; omega
      · have hk2 : k = l.length := by omega
        rw [hk2] at ht ⊢
        rw [ht] at e ⊢
        have b0 := HBD.out l.length (Nat.le_refl _)
        rw [ht] at b0
        have T0 : -2199023255552000 ≤ t := by omega
        have T1 : t ≤ 2199023255552000 := by omega
        have HE := Lib.hid e
        clear hk hk2 b0 e
        go_wp2
        go_ret
        exact ⟨ret_i HE.out.symm, hB⟩
end Go.Proofs.Ythndmoipemnllaa
