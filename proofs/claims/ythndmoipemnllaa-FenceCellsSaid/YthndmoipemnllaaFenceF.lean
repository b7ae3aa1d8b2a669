/- The walks of package fence: its area; its cells. -/
import Derived.Test.YthndmoipemnllaaFenceE
namespace Go.Proofs.Ythndmoipemnllaa
open Go.RowKit
attribute [local go_sem] store_complex store_float

structure AJ (w : World) (l : List (Int × Int)) (r : Nat) (k : Nat) (W : World) : Prop where
  below : Below w.heap.size w W
  rr : ∃ t, W.heap[r]? = some (.cells #[.float .f64 t] 49) ∧ Fl t (carea l k)

theorem crs_wy (l : List (Int × Int)) (k : Nat) : (pat l k).1 * (wy l k).2 - (pat l k).2 * (wy l k).1 = crs (pat l k) (nxt l k) := by
  unfold crs wy
  simp only [Int.mul_sub]
  have := Int.mul_comm (pat l k).1 (pat l k).2
  omega

theorem feachA_any (va : Value) (l : List (Int × Int)) (w W : World) (r : Nat) (ha : PairsAt w va l) (hR : Right l) (hr : w.heap.size ≤ r) (h0 : AJ w l r 0 W) :
    Calls Try.prog 25 #[va, .func (.func 33) #[] #[.pointer (some ⟨r, 0, none⟩)]] W fun e w' => e = .returned (.tuple #[]) ∧ AJ w l r l.length w' := by
  have hform : ∃ a c, va = .slice a l.length c := by obtain ⟨a, c, e, _⟩ := ha; exact ⟨a, c, e⟩
  have hsm := hR.2.2.1
  have hlen := hR.2.1
  refine feach_area va l _ (AJ w l r) hR.2.1 hsm hform (fun k w1 h => ha.kept h.below) (fun k w1 w2 h hb => ?_) (fun k p q w1 hk hp hq h => ?_) W h0
  · have hsz := h.below.size
    obtain ⟨t, h1, h2⟩ := h.rr
    exact ⟨h.below.trans (hb.mono hsz), t, (hb.block r (lt_of_block h1)).trans h1, h2⟩
  · obtain ⟨t, h1, h2⟩ := h.rr
    obtain ⟨b1, b2⟩ := wy_bd hsm k hk
    obtain ⟨b3, b4⟩ := smallP_bd (hsm k hk)
    have hs : carea l (k + 1) = carea l k + ((pat l k).1 * (wy l k).2 - (pat l k).2 * (wy l k).1) := by rw [crs_wy]; rfl
    have hcb := carea_bd hR (k + 1) (by omega)
    rw [hs] at hcb
    have hF := farea1_any (fl (pat l k).1) (fl (pat l k).2) p q t r w.heap.size (pat l k).1 (pat l k).2 (wy l k).1 (wy l k).2 (carea l k) (fl_small (by omega)) (fl_small (by omega)) hp hq h2 (by omega) (by omega) b1 b2 (by omega) w1 h1 hr
    refine hF.mono ?_
    rintro e w2 ⟨rfl, t', g1, g2, g3⟩
    exact ⟨rfl, h.below.trans g3, t', g1, by rw [hs]; exact g2⟩

set_option maxHeartbeats 1000000 in
theorem fArea_any (va : Value) (l : List (Int × Int)) (w : World) (ha : PairsAt w va l) (hl : l.length ≤ 1000000) :
    Calls Try.prog 17 #[va] w fun e w' => e = .returned (.int .i64 (fen l)) ∧ Below w.heap.size w w' := by
  have HA := Lib.hid ha
  have hr := fun w ha => fRight_any va l w ha hl
  clear ha
  obtain ⟨b, hb⟩ : ∃ b, rightB l = b := ⟨_, rfl⟩
  rw [hb] at hr
  have HR := Lib.hid hr
  clear hr
  have hB : Below w.heap.size w w := Below.refl _ _
  go_enter Try.func17, Try.ntmps17
  cases b with
  | false =>
    have e : fen l = 0 := if_neg (by rw [hb]; decide)
    rw [e]
    clear hb
    go_wp2_with (go_at_call 10; (with_reducible refine (HR.out _ HA.out).mono ?_); rintro e w1 ⟨rfl, hb⟩; replace hB := hB.trans (hb.mono hB.size); clear hb)
    go_ret
    exact ⟨rfl, hB⟩
  | true =>
    have hR := (rightB_iff l).1 hb
    have e : fen l = (carea l l.length).tdiv 2 := if_pos hb
    have hlen := hR.2.1
    have hcb := carea_bd hR l.length (Nat.le_refl _)
    have HE := Lib.hid fun W r h1 h0 => feachA_any va l w W r HA.out hR h1 h0
    have HF := Lib.hid e
    clear e hb hR
    obtain ⟨T, hT⟩ : ∃ T, carea l l.length = T := ⟨_, rfl⟩
    rw [hT] at hcb HF
    have T0 : -562949953421312 ≤ T := by omega
    have T1 : T ≤ 562949953421312 := by omega
    have hk : ∀ t w, Fl t T → (convert 49 3 (.float .f64 t)).run Try.prog w = .ok (.int .i64 T) w := fun t w h => run_convert_float_int w _ _ _ _ _ _ (by rw [Try.underlying49]; rfl) Try.underlying3 (toInt_whole h (by omega) (by omega))
    have HK := Lib.hid hk
    clear hcb hk
    go_wp2_with (first
      | (go_at_call 10; (with_reducible refine (HR.out _ HA.out).mono ?_); rintro e w1 ⟨rfl, hb⟩; replace hB := hB.trans (hb.mono hB.size); clear hb; have HJ := Lib.hid (show AJ w l w1.heap.size 0 (w1.alloc (.cells #[.float .f64 0] 49)) from ⟨hB.alloc hB.size _, 0, heap_alloc_new _ _, zero_whole⟩); have hz := hB.size)
      | (go_at_call 25; (with_reducible refine (HE.out _ _ hz HJ.out).mono ?_); rintro e w4 ⟨rfl, hj4⟩; obtain ⟨hbl, t, h1, h2⟩ := hj4; rw [hT] at h2; have k1 := fun w => HK.out t w h2; have g4 : w4.cell? ⟨w1.heap.size, 0, none⟩ = some (.float .f64 t) := (by simp [World.cell?, h1]); clear h1 h2 hB))
    go_ret
    exact ⟨ret_i HF.out.symm, hbl⟩

structure CJ (w : World) (l : List (Int × Int)) (px py : Int) (r s : Nat) (k : Nat) (W : World) : Prop where
  below : Below w.heap.size w W
  rr : W.heap[r]? = some (.cells #[.complex .f64 (fl px) (fl py)] 41)
  ss : W.heap[s]? = some (.cells #[.int .i64 (ccell l (px, py) k)] 3)

theorem pss_is (y z c : Int) : pss y z c = (if c < z then 1 else 0) - (if c < y then 1 else 0) := by
  unfold pss
  split <;> split <;> (try split) <;> omega
theorem edg_wy {l : List (Int × Int)} (h : Ring4 l) (k : Nat) (hk : k < l.length) (px py : Int) : edg (px, py) (pat l k) (nxt l k) = if px < (pat l k).1 then pss (pat l k).2 ((pat l k).2 + (wy l k).2) py else 0 := by
  rw [edg_is (h k hk), pss_is]
  unfold hgt wy
  simp only
  rw [show (pat l k).2 + ((nxt l k).2 - (pat l k).2) = (nxt l k).2 by omega]
  by_cases h1 : px < (pat l k).1
  · rw [if_pos h1, if_pos h1, Int.one_mul]
  · rw [if_neg h1, if_neg h1, Int.zero_mul]

theorem feachC_any (va : Value) (l : List (Int × Int)) (px py : Int) (w W : World) (r s : Nat) (ha : PairsAt w va l) (hR : Right l) (hpx : -9223372036854775808 ≤ px ∧ px ≤ 9223372036854775807) (hpy : -9223372036854775808 ≤ py ∧ py ≤ 9223372036854775807) (hs : w.heap.size ≤ s) (hrs : r ≠ s) (h0 : CJ w l px py r s 0 W) :
    Calls Try.prog 25 #[va, .func (.func 36) #[] #[.pointer (some ⟨r, 0, none⟩), .pointer (some ⟨s, 0, none⟩)]] W fun e w' => e = .returned (.tuple #[]) ∧ CJ w l px py r s l.length w' := by
  have hform : ∃ a c, va = .slice a l.length c := by obtain ⟨a, c, e, _⟩ := ha; exact ⟨a, c, e⟩
  have hsm := hR.2.2.1
  have hlen := hR.2.1
  have hring := hR.ring
  refine feach_cell va l _ _ (CJ w l px py r s) hR.2.1 hsm hform (fun k w1 h => ha.kept h.below) (fun k w1 w2 h hb => ?_) (fun k p q w1 hk hp hq h => ?_) W h0
  · have hsz := h.below.size
    exact ⟨h.below.trans (hb.mono hsz), (hb.block r (lt_of_block h.rr)).trans h.rr, (hb.block s (lt_of_block h.ss)).trans h.ss⟩
  · obtain ⟨b1, b2⟩ := wy_bd hsm k hk
    obtain ⟨b3, b4⟩ := smallP_bd (hsm k hk)
    have b5 := smallP_bd (hsm ((k + 1) % l.length) (Nat.mod_lt _ (by omega)))
    have e1 : (pat l k).2 + (wy l k).2 = (pat l ((k + 1) % l.length)).2 := by unfold wy nxt; simp only; omega
    have hcc := ccell_bd l (px, py) k
    have hF := fcell1_any (fl (pat l k).1) (fl (pat l k).2) p q _ _ r s w.heap.size (pat l k).1 (pat l k).2 (wy l k).1 (wy l k).2 px py (ccell l (px, py) k) (fl_small (by omega)) (fl_small (by omega)) hp hq (by omega) (by omega) (by rw [e1]; omega) (by omega) hpx hpy rfl rfl (by omega) w1 h.rr h.ss hrs hs
    refine hF.mono ?_
    rintro e w2 ⟨rfl, g1, g2, g3⟩
    rw [← edg_wy hring k hk px py] at g2
    exact ⟨rfl, h.below.trans g3, g1, g2⟩

set_option maxHeartbeats 2000000 in
theorem fCell_any (va : Value) (l : List (Int × Int)) (px py : Int) (w : World) (ha : PairsAt w va l) (hl : l.length ≤ 1000000) (hpx : -9223372036854775808 ≤ px ∧ px ≤ 9223372036854775807) (hpy : -9223372036854775808 ≤ py ∧ py ≤ 9223372036854775807) :
    Calls Try.prog 19 #[va, .agg #[.int .i64 px, .int .i64 py]] w fun e w' => e = .returned (.int .i64 (fcell l (px, py))) ∧ Below w.heap.size w w' := by
  have HA := Lib.hid ha
  have hr := fun w ha => fRight_any va l w ha hl
  clear ha
  obtain ⟨b, hb⟩ : ∃ b, rightB l = b := ⟨_, rfl⟩
  rw [hb] at hr
  have HR := Lib.hid hr
  clear hr
  have hB : Below w.heap.size w (w.alloc (.cells #[.int .i64 px, .int .i64 py] 23)) := (Below.refl _ _).alloc (Nat.le_refl _) _
  have C0 := Cell2.new w (.int .i64 px) (.int .i64 py) 23
  go_enter Try.func19, Try.ntmps19
  cases b with
  | false =>
    have e : fcell l (px, py) = 0 := if_neg (by rw [hb]; decide)
    rw [e]
    clear hb
    go_wp2_with (go_at_call 10; (with_reducible refine (HR.out _ (HA.out.kept hB)).mono ?_); rintro e w1 ⟨rfl, hb⟩; replace hB := hB.trans (hb.mono hB.size); clear hb)
    go_ret
    exact ⟨rfl, hB⟩
  | true =>
    have hR := (rightB_iff l).1 hb
    have e : fcell l (px, py) = ccell l (px, py) l.length := if_pos hb
    have HE := Lib.hid fun W r s h1 h2 h0 => feachC_any va l px py w W r s HA.out hR hpx hpy h1 h2 h0
    have HF := Lib.hid e
    clear e hb hR
    go_wp2_with (first
      | (go_at_call 10; (with_reducible refine (HR.out _ (HA.out.kept hB)).mono ?_); rintro e w1 ⟨rfl, hb⟩; obtain ⟨c0, c1, _, _⟩ := (C0.kept hb).alloc (.cells #[.int .i64 0] 3); replace hB := hB.trans (hb.mono hB.size); have hz1 := hB.size; have HS := Lib.hid (heap_alloc_new w1 (.cells #[.int .i64 0] 3)); have hB2 := hB.alloc hB.size (.cells #[.int .i64 0] 3); clear hb hB C0)
      | (go_at_call 24; (with_reducible refine (fnumber_any _ _ _).mono ?_); rintro e w2 ⟨rfl, hb⟩; have hs2 := (hb.block _ (lt_of_block HS.out)).trans HS.out; have hB3 := hB2.trans (hb.mono hB2.size); have hs3 := lt_of_block hs2; have hne : w2.heap.size ≠ w1.heap.size := (by omega); have HJ := Lib.hid (show CJ w l px py w2.heap.size w1.heap.size 0 (w2.alloc (.cells #[.complex .f64 (fl px) (fl py)] 41)) from ⟨hB3.alloc hB3.size _, heap_alloc_new _ _, (heap_alloc_old _ _ hs3).trans hs2⟩); clear hb hs2 hs3)
      | (go_at_call 25; (with_reducible refine (HE.out _ _ _ hz1 hne HJ.out).mono ?_); rintro e w4 ⟨rfl, hj4⟩; have HJ4 := Lib.hid hj4; have g4 : w4.cell? ⟨w1.heap.size, 0, none⟩ = some (.int .i64 (ccell l (px, py) l.length)) := (by simp [World.cell?, hj4.ss]); clear hj4))
    go_ret
    exact ⟨ret_i HF.out.symm, HJ4.out.below⟩
end Go.Proofs.Ythndmoipemnllaa
