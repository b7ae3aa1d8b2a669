/- The walks of package fence: each edge of a fence; is it a fence. -/
import Derived.Test.YthndmoipemnllaaFenceD
namespace Go.Proofs.Ythndmoipemnllaa
open Go.RowKit
attribute [local go_sem] store_complex store_float

/-- the way that leads to a corner -/
def lst (l : List (Int × Int)) (k : Nat) : Int × Int := if k = 0 then wy l (l.length - 1) else wy l (k - 1)
def rgt (l : List (Int × Int)) : Nat → Bool
  | 0 => true
  | k + 1 => rgt l k && (strB (wy l k) && sqB (lst l k) (wy l k))
theorem rgt_iff (l : List (Int × Int)) (k : Nat) : rgt l k = true ↔ ∀ i, i < k → strB (wy l i) = true ∧ sqB (lst l i) (wy l i) = true := by
  induction k with
  | zero => simp [rgt]
  | succ k ih =>
    simp only [rgt, Bool.and_eq_true, ih]
    constructor
    · rintro ⟨h1, h2⟩ i hi
      by_cases e : i = k
      · subst e; exact h2
      · exact h1 i (by omega)
    · intro h
      exact ⟨fun i hi => h i (by omega), h k (by omega)⟩
theorem str_iff (a : Int × Int) : strB a = true ↔ (a.1 = 0 ∧ a.2 ≠ 0) ∨ (a.1 ≠ 0 ∧ a.2 = 0) := by
  unfold strB
  by_cases h1 : a.1 = 0 <;> by_cases h2 : a.2 = 0 <;> simp [h1, h2]
theorem sq_iff {a b : Int × Int} (ha : strB a = true) (hb : strB b = true) : sqB a b = true ↔ (a.2 = 0 ∧ b.1 = 0) ∨ (a.1 = 0 ∧ b.2 = 0) := by
  unfold sqB
  simp only [decide_eq_true_eq]
  rcases (str_iff a).1 ha with ⟨h1, h2⟩ | ⟨h1, h2⟩
  · rw [h1, Int.zero_mul]
    constructor
    · intro h
      have : a.2 * b.2 = 0 := by omega
      rcases Int.mul_eq_zero.1 this with h | h
      · exact absurd h h2
      · exact .inr ⟨rfl, h⟩
    · rintro (⟨h, _⟩ | ⟨_, h⟩)
      · exact absurd h h2
      · rw [h]; simp
  · rw [h2, Int.zero_mul]
    constructor
    · intro h
      have : a.1 * b.1 = 0 := by omega
      rcases Int.mul_eq_zero.1 this with h | h
      · exact absurd h h1
      · exact .inl ⟨rfl, h⟩
    · rintro (⟨_, h⟩ | ⟨h, _⟩)
      · rw [h]; simp
      · exact absurd h h1
theorem lev_wy (l : List (Int × Int)) (i : Nat) : lev (pat l i) (nxt l i) = true ↔ (wy l i).2 = 0 ∧ (wy l i).1 ≠ 0 := by
  unfold lev wy
  simp only [Bool.and_eq_true, decide_eq_true_eq]
  omega
theorem stp_wy (l : List (Int × Int)) (i : Nat) : stp (pat l i) (nxt l i) = true ↔ (wy l i).1 = 0 ∧ (wy l i).2 ≠ 0 := by
  unfold stp wy
  simp only [Bool.and_eq_true, decide_eq_true_eq]
  omega
theorem turn_wy (l : List (Int × Int)) (i : Nat) : turnAt l i = true ↔ ((wy l i).2 = 0 ∧ (wy l i).1 ≠ 0 ∧ (wy l ((i + 1) % l.length)).1 = 0 ∧ (wy l ((i + 1) % l.length)).2 ≠ 0) ∨ ((wy l i).1 = 0 ∧ (wy l i).2 ≠ 0 ∧ (wy l ((i + 1) % l.length)).2 = 0 ∧ (wy l ((i + 1) % l.length)).1 ≠ 0) := by
  have e : nxt l i = pat l ((i + 1) % l.length) := rfl
  unfold turnAt
  rw [Bool.or_eq_true, Bool.and_eq_true, Bool.and_eq_true, lev_wy, stp_wy]
  have h1 : stp (nxt l i) (nxt l ((i + 1) % l.length)) = true ↔ _ := stp_wy l ((i + 1) % l.length)
  have h2 : lev (nxt l i) (nxt l ((i + 1) % l.length)) = true ↔ _ := lev_wy l ((i + 1) % l.length)
  rw [h1, h2]
  simp only [and_assoc]
theorem lst_next (l : List (Int × Int)) (i : Nat) (h : i < l.length) : lst l ((i + 1) % l.length) = wy l i := by
  unfold lst
  by_cases h1 : i + 1 < l.length
  · rw [Nat.mod_eq_of_lt h1, if_neg (by omega)]
    rfl
  · have e : i + 1 = l.length := by omega
    rw [e, Nat.mod_self, if_pos rfl, ← e]
    rfl
theorem rgt_all (l : List (Int × Int)) : rgt l l.length = true ↔ ∀ i, i < l.length → turnAt l i = true := by
  rw [rgt_iff]
  constructor
  · intro h i hi
    rw [turn_wy]
    have hj : (i + 1) % l.length < l.length := Nat.mod_lt _ (by omega)
    obtain ⟨a1, _⟩ := h i hi
    obtain ⟨b1, b2⟩ := h _ hj
    rw [lst_next l i hi] at b2
    have h3 := (sq_iff a1 b1).1 b2
    have a2 := (str_iff _).1 a1
    have b3 := (str_iff _).1 b1
    generalize wy l i = a at *
    generalize wy l ((i + 1) % l.length) = b at *
    clear h a1 b1 b2
    omega
  · intro h
    have hs : ∀ i, i < l.length → strB (wy l i) = true := fun i hi => by
      rw [str_iff]
      have := (turn_wy l i).1 (h i hi)
      generalize wy l ((i + 1) % l.length) = b at *
      generalize wy l i = a at *
      omega
    intro k hk
    refine ⟨hs k hk, ?_⟩
    obtain ⟨i, hi, e⟩ : ∃ i, i < l.length ∧ (i + 1) % l.length = k := by
      by_cases h0 : k = 0
      · exact ⟨l.length - 1, by omega, by rw [show l.length - 1 + 1 = l.length by omega, Nat.mod_self, h0]⟩
      · exact ⟨k - 1, by omega, by rw [show k - 1 + 1 = k by omega, Nat.mod_eq_of_lt hk]⟩
    have h1 := (turn_wy l i).1 (h i hi)
    have h2 := lst_next l i hi
    rw [e] at h1 h2
    rw [h2, sq_iff (hs i hi) (hs k hk)]
    generalize wy l i = a at *
    generalize wy l k = b at *
    omega
theorem right_is (l : List (Int × Int)) (h1 : 4 ≤ l.length) (h2 : l.length ≤ 256) (h3 : farB l l.length = true) : rightB l = rgt l l.length := by
  rw [Bool.eq_iff_iff, rightB_iff, rgt_all]
  exact ⟨fun h => h.2.2.2, fun h => ⟨h1, h2, (farB_iff l _).1 h3, h⟩⟩

theorem wy_bd {l : List (Int × Int)} (hsm : ∀ i, i < l.length → smallP (pat l i) 1048576 = true) (k : Nat) (hk : k < l.length) : (wy l k).1.natAbs ≤ 2097152 ∧ (wy l k).2.natAbs ≤ 2097152 := by
  have h1 := smallP_bd (hsm k hk)
  have h2 := smallP_bd (hsm ((k + 1) % l.length) (Nat.mod_lt _ (by omega)))
  have e : wy l k = ((pat l ((k + 1) % l.length)).1 - (pat l k).1, (pat l ((k + 1) % l.length)).2 - (pat l k).2) := rfl
  rw [e]
  simp only
  omega
theorem lst_bd {l : List (Int × Int)} (hsm : ∀ i, i < l.length → smallP (pat l i) 1048576 = true) (k : Nat) (hk : k < l.length) : (lst l k).1.natAbs ≤ 2097152 ∧ (lst l k).2.natAbs ≤ 2097152 := by
  unfold lst
  split
  · exact wy_bd hsm _ (by omega)
  · exact wy_bd hsm _ (by omega)

structure RJ (w : World) (l : List (Int × Int)) (r s : Nat) (k : Nat) (W : World) : Prop where
  below : Below w.heap.size w W
  rr : W.heap[r]? = some (.cells #[.bool (rgt l k)] 4)
  ss : ∃ c d, W.heap[s]? = some (.cells #[.complex .f64 c d] 41) ∧ Fl c (lst l k).1 ∧ Fl d (lst l k).2

theorem feachR_any (va : Value) (l : List (Int × Int)) (w W : World) (r s : Nat) (ha : PairsAt w va l) (hl : l.length ≤ 256) (hsm : ∀ i, i < l.length → smallP (pat l i) 1048576 = true) (hr : w.heap.size ≤ r) (hs : w.heap.size ≤ s) (hrs : r ≠ s) (h0 : RJ w l r s 0 W) :
    Calls Try.prog 25 #[va, .func (.func 26) #[] #[.pointer (some ⟨r, 0, none⟩), .pointer (some ⟨s, 0, none⟩)]] W fun e w' => e = .returned (.tuple #[]) ∧ RJ w l r s l.length w' := by
  have hform : ∃ a c, va = .slice a l.length c := by obtain ⟨a, c, e, _⟩ := ha; exact ⟨a, c, e⟩
  refine feach_right va l _ _ (RJ w l r s) hl hsm hform (fun k w1 h => ha.kept h.below) (fun k w1 w2 h hb => ?_) (fun k p q w1 hk hp hq h => ?_) W h0
  · have hsz := h.below.size
    obtain ⟨c, d, h1, h2, h3⟩ := h.ss
    exact ⟨h.below.trans (hb.mono hsz), (hb.block r (lt_of_block h.rr)).trans h.rr, c, d, (hb.block s (lt_of_block h1)).trans h1, h2, h3⟩
  · obtain ⟨c, d, h1, h2, h3⟩ := h.ss
    obtain ⟨b1, b2⟩ := wy_bd hsm k hk
    obtain ⟨b3, b4⟩ := lst_bd hsm k hk
    refine (fright1_any _ _ p q c d r s w.heap.size (rgt l k) _ _ _ _ hp hq h2 h3 b1 b2 b3 b4 w1 h.rr h1 hrs hr hs).mono ?_
    rintro e w2 ⟨rfl, g1, g2, g3⟩
    exact ⟨rfl, h.below.trans g3, g1, p, q, g2, hp, hq⟩

set_option maxHeartbeats 2000000 in
set_option maxRecDepth 100000 in
theorem fRight_any (va : Value) (l : List (Int × Int)) (w : World) (ha : PairsAt w va l) (hl : l.length ≤ 1000000) :
    Calls Try.prog 10 #[va] w fun e w' => e = .returned (.bool (rightB l)) ∧ Below w.heap.size w w' := by
  have HA := Lib.hid ha
  have hform : ∃ a c, va = .slice a l.length c := by obtain ⟨a, c, e, _⟩ := ha; exact ⟨a, c, e⟩
  obtain ⟨a, c, rfl⟩ := hform
  clear ha
  by_cases h1 : l.length < 4
  · have e : rightB l = false := rightB_no fun h => by have := h.1; omega
    rw [e]
    go_enter Try.func10, Try.ntmps10
    go_wp2
    go_ret
    exact ⟨rfl, Below.refl _ _⟩
  by_cases h2 : 256 < l.length
  · have e : rightB l = false := rightB_no fun h => by have := h.2.1; omega
    rw [e]
    go_enter Try.func10, Try.ntmps10
    go_wp2
    go_ret
    exact ⟨rfl, Below.refl _ _⟩
  have hfar := fun w ha => ffar_any (.slice a l.length c) l w ha hl
  obtain ⟨b, hb⟩ : ∃ b, farB l l.length = b := ⟨_, rfl⟩
  rw [hb] at hfar
  have HF := Lib.hid hfar
  have hB : Below w.heap.size w w := Below.refl _ _
  clear hfar
  cases b with
  | false =>
    have e : rightB l = false := rightB_no fun h => by rw [(farB_iff l _).2 h.2.2.1] at hb; cases hb
    rw [e]
    clear hb
    go_enter Try.func10, Try.ntmps10
    go_wp2_with (go_at_call 23; (with_reducible refine (HF.out _ HA.out).mono ?_); rintro e w1 ⟨rfl, hb⟩; replace hB := hB.trans (hb.mono hB.size); clear hb)
    go_ret
    exact ⟨rfl, hB⟩
  | true =>
    have HR := Lib.hid (right_is l (by omega) (by omega) hb)
    have hsm := (farB_iff l _).1 hb
    have HSM := Lib.hid hsm
    have hw : wy l (l.length - 1) = ((pat l 0).1 - (pat l (l.length - 1)).1, (pat l 0).2 - (pat l (l.length - 1)).2) := by
      unfold wy nxt
      rw [show l.length - 1 + 1 = l.length by omega, Nat.mod_self]
    have hb1 := smallP_bd (hsm 0 (by omega))
    have hb2 := smallP_bd (hsm (l.length - 1) (by omega))
    clear hb hsm
    go_enter Try.func10, Try.ntmps10
    go_wp2_with (go_at_call 23; (with_reducible refine (HF.out _ HA.out).mono ?_); rintro e w1 ⟨rfl, hb⟩; replace hB := hB.trans (hb.mono hB.size); clear hb)
    have hB2 := hB.alloc hB.size (.cells #[.bool true] 4)
    have HR2 := Lib.hid (heap_alloc_new w1 (.cells #[.bool true] 4))
    have hz2 : w1.heap.size < (w1.alloc (.cells #[.bool true] 4)).heap.size := by simp
    have hz1 := hB.size
    have HA2 := Lib.hid (HA.out.kept hB2)
    clear hB
    generalize w1.alloc (.cells #[.bool true] 4) = w2 at *
    generalize w1.heap.size = r at *
    obtain ⟨g, o, c', ev, hc, hg, p1, p2⟩ := HA2.out.spot 0 (by omega)
    cases ev
    obtain ⟨g', o', c', ev, hc', hg', q1, q2⟩ := HA2.out.spot (l.length - 1) (by omega)
    cases ev
    simp only [Nat.zero_mul, Nat.add_zero] at p1 p2
    have HW := Lib.hid hw
    clear hw
    generalize pat l 0 = P at *
    generalize pat l (l.length - 1) = Q at *
    obtain ⟨x1, y1⟩ := P
    obtain ⟨x2, y2⟩ := Q
    simp only at p1 p2 q1 q2 hb1 hb2 HW
    obtain ⟨hrun, hre, him⟩ := cDif_whole 41 (a := fl x1) (b := fl y1) (c := fl x2) (d := fl y2) (fl_small (by omega)) (fl_small (by omega)) (fl_small (by omega)) (fl_small (by omega)) (by omega) (by omega)
    have HRE := Lib.hid hre
    have HIM := Lib.hid him
    obtain ⟨j, hj⟩ : ∃ j, l.length - 1 = j := ⟨_, rfl⟩
    have hjj : (l.length : Int) - 1 = (j : Int) := by omega
    rw [hj] at q1 q2
    have j0 : (0 : Int) ≤ (j : Int) := by omega
    have j1 : (j : Int) < (l.length : Int) := by omega
    have l0 : (0 : Int) < (l.length : Int) := by omega
    have HE := Lib.hid fun W r s h1 h2 h3 h0 => feachR_any _ l w W r s HA.out (by omega) HSM.out h1 h2 h3 h0
    clear hre him hb1 hb2 HSM hg hg' hc hc'
    refine wp_region_calmN 12 13 [(.cells #[.complex .f64 0 0] 41, fun b => .pointer (some ⟨b, 0, none⟩))] (by kernel_rfl) (by simp) (by simp) (by kernel_rfl) fun M => ?_
    simp only [List.take_succ_cons, List.take_zero, List.drop_succ_cons, List.drop_zero, List.length_cons, List.length_nil, List.take_nil]
    have e1 := fun n : In M.w => n.cell (M.cell p1)
    have e2 := fun n : In M.w => n.cell (M.cell p2)
    have e3 := fun n : In M.w => n.cell (M.cell q1)
    have e4 := fun n : In M.w => n.cell (M.cell q2)
    repeat (go_big_quiet_step ((go_at_call 24; with_reducible exact In.call (fnumber_any _ _ _))))
    refine wpQuiet_nil ?_
    clear e1 e2 e3 e4 M p1 p2 q1 q2
    refine ⟨rfl, fun n => by simp [go_sem], fun s hs _ w3 hw => ?_⟩
    have hb := hw.below
    have hH := hw.own s _ (Gh.set_self _ _ _)
    have hr3 := (hb.block r hz2).trans HR2.out
    have hB3 := hB2.trans (hb.mono hB2.size)
    have hne : r ≠ s := by omega
    have g0 : w3.cell? ⟨s, 0, none⟩ = some (.complex .f64 0 0) := by simp [World.cell?, hH]
    have z0 : w3.frozen? ⟨s, 0, none⟩ = false := by simp [World.frozen?, hH]
    have hs1 : w.heap.size ≤ s := by omega
    have HJ := Lib.hid (show RJ w l r s 0 (w3.setCell ⟨s, 0, none⟩ (.complex .f64 (fbits .sub (fl x1) (fl x2)) (fbits .sub (fl y1) (fl y2)))) from
      ⟨hB3.setCell hs1 _, set_keep hr3 0 _ hne, _, _, heap1_set hH _, by show Fl _ (wy l (l.length - 1)).1; rw [HW.out]; exact HRE.out, by show Fl _ (wy l (l.length - 1)).2; rw [HW.out]; exact HIM.out⟩)
    clear hb hw hH hr3 HRE HIM hB3 hB2
    go_wp2_with (go_at_call 25; (with_reducible refine (HE.out _ _ _ hz1 hs1 hne HJ.out).mono ?_); rintro e w4 ⟨rfl, hj4⟩; have HJ4 := Lib.hid hj4; have g4 : w4.cell? ⟨r, 0, none⟩ = some (.bool (rgt l l.length)) := (by simp [World.cell?, hj4.rr]); clear hj4)
    go_ret
    exact ⟨ret_b HR.out.symm, HJ4.out.below⟩
end Go.Proofs.Ythndmoipemnllaa
