/- The walks of package fence: what is done with each edge. -/
import Derived.Test.YthndmoipemnllaaFenceC
namespace Go.Proofs.Ythndmoipemnllaa
open Go.RowKit
attribute [local go_sem] store_complex
theorem store_float (P : Program) (w : World) (a : Addr) (m : Mode) (k : FloatKind) (x : Nat) : (store a (.float k x) m).run P w = stored P w a (.float k x) m := run_store P w a _ m rfl
attribute [local go_sem] store_float

theorem bd42 {x y : Int} (h1 : x.natAbs ≤ 2097152) (h2 : y.natAbs ≤ 2097152) : (x * y).natAbs < 2 ^ 52 := by have := mul_bd h1 h2; omega
theorem heap1_set {w : World} {b : Nat} {x : Value} {t : TypeId} (h : w.heap[b]? = some (.cells #[x] t)) (x' : Value) : (w.setCell ⟨b, 0, none⟩ x').heap[b]? = some (.cells #[x'] t) := by
  unfold World.setCell
  simp only [Array.getElem?_modify, if_pos, h, Option.map_some]
  rfl
theorem set_keep {w : World} {k j : Nat} {o : Obj} (h : w.heap[k]? = some o) (i : Nat) (u : Value) (hne : k ≠ j) : (w.setCell ⟨j, i, none⟩ u).heap[k]? = some o := by
  rw [Below.heap_setCell w ⟨j, i, none⟩ u k hne]
  exact h

def strB (a : Int × Int) : Bool := decide (a.1 = 0) != decide (a.2 = 0)
def sqB (a b : Int × Int) : Bool := decide (a.1 * b.1 - a.2 * b.2 = 0)

set_option maxHeartbeats 1000000 in
theorem fright1_any (f1 f2 p q c d r s B : Nat) (b : Bool) (x y u v : Int) (hp : Fl p x) (hq : Fl q y) (hc : Fl c u) (hd : Fl d v) (b1 : x.natAbs ≤ 2097152) (b2 : y.natAbs ≤ 2097152) (b3 : u.natAbs ≤ 2097152) (b4 : v.natAbs ≤ 2097152)
    (w : World) (hr : w.heap[r]? = some (.cells #[.bool b] 4)) (hs : w.heap[s]? = some (.cells #[.complex .f64 c d] 41)) (hrs : r ≠ s) (hBr : B ≤ r) (hBs : B ≤ s) :
    Calls Try.prog 26 #[.complex .f64 f1 f2, .complex .f64 p q, .pointer (some ⟨r, 0, none⟩), .pointer (some ⟨s, 0, none⟩)] w fun e w' => e = .returned (.tuple #[]) ∧
      w'.heap[r]? = some (.cells #[.bool (b && (strB (x, y) && sqB (u, v) (x, y)))] 4) ∧ w'.heap[s]? = some (.cells #[.complex .f64 p q] 41) ∧ Below B w w' := by
  have c0 : w.cell? ⟨r, 0, none⟩ = some (.bool b) := by simp [World.cell?, hr]
  have c1 : w.cell? ⟨s, 0, none⟩ = some (.complex .f64 c d) := by simp [World.cell?, hs]
  have z0 : w.frozen? ⟨r, 0, none⟩ = false := by simp [World.frozen?, hr]
  have z1 : w.frozen? ⟨s, 0, none⟩ = false := by simp [World.frozen?, hs]
  have hst := fun w => fstraight_any p q x y hp hq w
  have hsq := fun w => fsquare_any c d p q u v x y hc hd hp hq (bd42 b3 b1) (bd42 b4 b2) (bd42 b3 b2) (bd42 b4 b1) w
  have hgoal : ∀ t : Bool, ((w.setCell ⟨r, 0, none⟩ (.bool t)).setCell ⟨s, 0, none⟩ (.complex .f64 p q)).heap[r]? = some (.cells #[.bool t] 4) ∧ ((w.setCell ⟨r, 0, none⟩ (.bool t)).setCell ⟨s, 0, none⟩ (.complex .f64 p q)).heap[s]? = some (.cells #[.complex .f64 p q] 41) ∧ Below B w ((w.setCell ⟨r, 0, none⟩ (.bool t)).setCell ⟨s, 0, none⟩ (.complex .f64 p q)) := fun t =>
    ⟨set_keep (heap1_set hr _) _ _ hrs, heap1_set (set_keep hs _ _ (Ne.symm hrs)) _, ((Below.refl _ _).setCell hBr _).setCell hBs _⟩
  have e1 : strB (x, y) = (decide (x = 0) != decide (y = 0)) := rfl
  have e2 : sqB (u, v) (x, y) = decide (u * x - v * y = 0) := rfl
  rw [e1, e2]
  generalize (decide (x = 0) != decide (y = 0)) = t1 at *
  generalize decide (u * x - v * y = 0) = t2 at *
  have HST := Lib.hid hst
  have HSQ := Lib.hid hsq
  have HG := Lib.hid hgoal
  clear hst hsq hgoal hp hq hc hd b1 b2 b3 b4 e1 e2 hr hs
  cases b
  · go_enter Try.func26, Try.ntmps26
    go_wp2
    go_end0
    exact ⟨rfl, HG.out _⟩
  · cases t1
    · go_enter Try.func26, Try.ntmps26
      go_wp2_with (go_at_call 27; (with_reducible refine (HST.out _).mono ?_); rintro e w1 ⟨rfl, rfl⟩)
      go_end0
      exact ⟨rfl, HG.out _⟩
    · go_enter Try.func26, Try.ntmps26
      go_wp2_with (first
        | (go_at_call 27; (with_reducible refine (HST.out _).mono ?_); rintro e w1 ⟨rfl, rfl⟩)
        | (go_at_call 28; (with_reducible refine (HSQ.out _).mono ?_); rintro e w1 ⟨rfl, rfl⟩))
      go_end0
      exact ⟨rfl, HG.out _⟩

theorem imag_crs (x y u v : Int) : x * v + -y * u = x * v - y * u := by rw [Int.neg_mul]; omega

set_option maxHeartbeats 1000000 in
theorem farea1_any (f1 f2 p q t r B : Nat) (x y u v T : Int) (h1 : Fl f1 x) (h2 : Fl f2 y) (hp : Fl p u) (hq : Fl q v) (ht : Fl t T) (b1 : x.natAbs ≤ 1048576) (b2 : y.natAbs ≤ 1048576) (b3 : u.natAbs ≤ 2097152) (b4 : v.natAbs ≤ 2097152)
    (bT : (T + (x * v - y * u)).natAbs < 2 ^ 53) (w : World) (hr : w.heap[r]? = some (.cells #[.float .f64 t] 49)) (hBr : B ≤ r) :
    Calls Try.prog 33 #[.complex .f64 f1 f2, .complex .f64 p q, .pointer (some ⟨r, 0, none⟩)] w fun e w' => e = .returned (.tuple #[]) ∧
      ∃ t', w'.heap[r]? = some (.cells #[.float .f64 t'] 49) ∧ Fl t' (T + (x * v - y * u)) ∧ Below B w w' := by
  have c0 : w.cell? ⟨r, 0, none⟩ = some (.float .f64 t) := by simp [World.cell?, hr]
  have hn := neg_whole h2
  obtain ⟨hrun, _, him⟩ := cMul_run 41 h1 hn hp hq (bd42 (by omega) b3) (by rw [Int.neg_mul, Int.natAbs_neg]; exact bd42 (by omega) b4) (bd42 (by omega) b4) (by rw [Int.neg_mul, Int.natAbs_neg]; exact bd42 (by omega) b3)
  rw [imag_crs] at him
  obtain ⟨e1, hre⟩ := add_whole ht him bT
  have hadd : ∀ w, (binOp .add 49 (.float .f64 t) (.float .f64 (mulIm f1 (Op.negFloat .f64 f2) p q))).run Try.prog w = .ok (.float .f64 (fbits .add t (mulIm f1 (Op.negFloat .f64 f2) p q))) w := fun w => run_float_arith w .add _ .f64 _ _ _ e1
  have HR := Lib.hid hr
  have HF := Lib.hid hre
  clear hn him e1 hre h1 h2 hp hq ht b1 b2 b3 b4 bT hr
  go_enter Try.func33, Try.ntmps33
  go_wp2
  refine wp_region_calmT 7 (by kernel_rfl) (by simp) (by kernel_rfl) fun M => ?_
  simp only [List.take_succ_cons, List.take_zero, List.drop_succ_cons, List.drop_zero]
  have e0 := fun n : In M.w => n.cell (M.cell c0)
  repeat (go_big_quiet_step ((go_at_call 34; with_reducible exact In.call_same (fmirrored_any _ _ _))))
  refine wpQuiet_nil ?_
  intro w1 hb
  have hr1 := (hb.block r (lt_of_block HR.out)).trans HR.out
  have g0 : w1.cell? ⟨r, 0, none⟩ = some (.float .f64 t) := by simp [World.cell?, hr1]
  have z0 : w1.frozen? ⟨r, 0, none⟩ = false := by simp [World.frozen?, hr1]
  have HG := Lib.hid (heap1_set hr1 (.float .f64 (fbits .add t (mulIm f1 (Op.negFloat .f64 f2) p q))))
  have hBB : Below B w w1 := hb.mono (Nat.le_of_lt (Nat.lt_of_le_of_lt hBr (lt_of_block HR.out)))
  clear e0 M hr1 hb c0 HR
  go_wp2
  go_end0
  exact ⟨rfl, _, HG.out, HF.out, hBB.setCell hBr _⟩

theorem pss_far {y z c C : Int} (h1 : y.natAbs ≤ 1048576) (h2 : z.natAbs ≤ 1048576) (h : (c.natAbs < 2 ^ 53 ∧ C = c) ∨ (2 ^ 53 ≤ c ∧ 2 ^ 53 ≤ C) ∨ (c ≤ -2 ^ 53 ∧ C ≤ -2 ^ 53)) : pss y z C = pss y z c := by
  unfold pss
  rcases h with ⟨_, rfl⟩ | ⟨h3, h4⟩ | ⟨h3, h4⟩
  · rfl
  · rw [if_neg (by omega), if_neg (by omega), if_neg (by omega), if_neg (by omega)]
  · rw [if_neg (by omega), if_neg (by omega), if_neg (by omega), if_neg (by omega)]
theorem lt_far {x c C : Int} (h1 : x.natAbs ≤ 1048576) (h : (c.natAbs < 2 ^ 53 ∧ C = c) ∨ (2 ^ 53 ≤ c ∧ 2 ^ 53 ≤ C) ∨ (c ≤ -2 ^ 53 ∧ C ≤ -2 ^ 53)) : C < x ↔ c < x := by
  omega
theorem pss_bd (y z c : Int) : -1 ≤ pss y z c ∧ pss y z c ≤ 1 := by
  unfold pss
  split
  · omega
  · split <;> omega

set_option maxHeartbeats 1000000 in
theorem fcell1_any (f1 f2 p q c d r s B : Nat) (x y u v px py A : Int) (h1 : Fl f1 x) (h2 : Fl f2 y) (hp : Fl p u) (hq : Fl q v) (b1 : x.natAbs ≤ 1048576) (b2 : y.natAbs ≤ 1048576) (b3 : (y + v).natAbs ≤ 1048576) (b4 : (x + u).natAbs < 2 ^ 53)
    (hpx : -9223372036854775808 ≤ px ∧ px ≤ 9223372036854775807) (hpy : -9223372036854775808 ≤ py ∧ py ≤ 9223372036854775807) (hc : c = fl px) (hd : d = fl py) (hA : -1000000 ≤ A ∧ A ≤ 1000000)
    (w : World) (hr : w.heap[r]? = some (.cells #[.complex .f64 c d] 41)) (hs : w.heap[s]? = some (.cells #[.int .i64 A] 3)) (hrs : r ≠ s) (hBs : B ≤ s) :
    Calls Try.prog 36 #[.complex .f64 f1 f2, .complex .f64 p q, .pointer (some ⟨r, 0, none⟩), .pointer (some ⟨s, 0, none⟩)] w fun e w' => e = .returned (.tuple #[]) ∧
      w'.heap[r]? = some (.cells #[.complex .f64 c d] 41) ∧ w'.heap[s]? = some (.cells #[.int .i64 (A + if px < x then pss y (y + v) py else 0)] 3) ∧ Below B w w' := by
  have c0 : w.cell? ⟨r, 0, none⟩ = some (.complex .f64 c d) := by simp [World.cell?, hr]
  have c1 : w.cell? ⟨s, 0, none⟩ = some (.int .i64 A) := by simp [World.cell?, hs]
  obtain ⟨X, hX, kX⟩ := ofInt_any hpx
  obtain ⟨Y, hY, kY⟩ := ofInt_any hpy
  have hX' : Fl c X := by rw [hc]; exact hX
  have hY' : Fl d Y := by rw [hd]; exact hY
  have hgt := ord_gt h1 hX'
  rw [show decide (X < x) = decide (px < x) from decide_eq_decide.2 (lt_far b1 kX)] at hgt
  obtain ⟨hrun, _, hend⟩ := cSum_whole (op := .add) 41 h1 h2 hp hq rfl b4 (by omega)
  have hpass := fun w => fpasses_any _ _ _ _ _ _ h2 hend hY' w
  rw [pss_far b2 b3 kY] at hpass
  have hps := pss_bd y (y + v) py
  generalize pss y (y + v) py = S at *
  have HR := Lib.hid hr
  have HS := Lib.hid hs
  have HP := Lib.hid hpass
  clear hX hY hX' hY' kX kY h1 h2 hp hq hend hpass b1 b2 b3 b4 hr hs hpx hpy hc hd
  by_cases h : px < x
  · rw [if_pos h]
    rw [decide_eq_true h] at hgt
    have S0 : -1 ≤ S := hps.1
    have S1 : S ≤ 1 := hps.2
    have A0 := hA.1
    have A1 := hA.2
    clear h hps hA
    go_enter Try.func36, Try.ntmps36
    go_wp2
    refine wp_region_calmT 11 (by kernel_rfl) (by simp) (by kernel_rfl) fun M => ?_
    simp only [List.take_succ_cons, List.take_zero, List.drop_succ_cons, List.drop_zero]
    have e0 := fun n : In M.w => n.cell (M.cell c0)
    have e1 := fun n : In M.w => n.cell (M.cell c1)
    repeat (go_big_quiet_step ((go_at_call 37; with_reducible exact In.call_same (HP.out _))))
    refine wpQuiet_nil ?_
    intro w1 hb
    have hs1 := (hb.block s (lt_of_block HS.out)).trans HS.out
    have hr1 := (hb.block r (lt_of_block HR.out)).trans HR.out
    have g0 : w1.cell? ⟨s, 0, none⟩ = some (.int .i64 A) := by simp [World.cell?, hs1]
    have z0 : w1.frozen? ⟨s, 0, none⟩ = false := by simp [World.frozen?, hs1]
    have HG := Lib.hid (heap1_set hs1 (.int .i64 (A + S)))
    have HH := Lib.hid (set_keep hr1 0 (.int .i64 (A + S)) hrs)
    have hBB : Below B w w1 := hb.mono (Nat.le_of_lt (Nat.lt_of_le_of_lt hBs (lt_of_block HS.out)))
    clear e0 e1 M hr1 hs1 hb c0 c1 HR HS
    go_wp2
    go_end0
    exact ⟨rfl, HH.out, HG.out, hBB.setCell hBs _⟩
  · rw [if_neg h, Int.add_zero]
    rw [decide_eq_false h] at hgt
    clear h hps hA
    go_enter Try.func36, Try.ntmps36
    go_wp2
    go_end0
    exact ⟨rfl, HR.out, HS.out, Below.refl _ _⟩
end Go.Proofs.Ythndmoipemnllaa
