/- The walks of the document's answers for layer 6: is a cell within? -/
import Derived.Test.YthndmoipemnllaaFenceRefC
namespace Go.Proofs.Ythndmoipemnllaa
open Go.RowKit
attribute [local go_sem high] field_x field_y

/-- the edges so far -/
def ccell (l : List (Int × Int)) (p : Int × Int) (k : Nat) : Int := sumN (fun i => edg p (pat l i) (nxt l i)) k
theorem edg_bd (p a b : Int × Int) : -1 ≤ edg p a b ∧ edg p a b ≤ 1 := by
  unfold edg
  split
  · split <;> omega
  · omega
theorem ccell_bd (l : List (Int × Int)) (p : Int × Int) (k : Nat) : -(k : Int) ≤ ccell l p k ∧ ccell l p k ≤ (k : Int) := by
  induction k with
  | zero => simp [ccell, sumN]
  | succ k ih =>
    have e : ccell l p (k + 1) = ccell l p k + edg p (pat l k) (nxt l k) := rfl
    have := edg_bd p (pat l k) (nxt l k)
    omega
/-- a fence's cell -/
def fcell (l : List (Int × Int)) (p : Int × Int) : Int := if rightB l = true then cell l p else 0

set_option maxHeartbeats 4000000 in
set_option maxRecDepth 100000 in
theorem refCell_any (va : Value) (l : List (Int × Int)) (px py : Int) (w : World) (ha : PairsAt w va l) (hl : l.length ≤ 1000000) :
    Calls Try.prog 20 #[va, .agg #[.int .i64 px, .int .i64 py]] w fun e w' => e = .returned (.int .i64 (fcell l (px, py))) ∧ Below w.heap.size w w' := by
  have HA := Lib.hid ha
  have hform : ∃ a c, va = .slice a l.length c := by obtain ⟨a, c, e, _⟩ := ha; exact ⟨a, c, e⟩
  obtain ⟨a, c, rfl⟩ := hform
  have hr := fun w ha => refRight_any (.slice a l.length c) l w ha hl
  clear ha
  obtain ⟨b, hb⟩ : ∃ b, rightB l = b := ⟨_, rfl⟩
  rw [hb] at hr
  have HR := Lib.hid hr
  clear hr
  have hB : Below w.heap.size w (w.alloc (.cells #[.int .i64 px, .int .i64 py] 23)) := (Below.refl _ _).alloc (Nat.le_refl _) _
  have C0 := Cell2.new w (.int .i64 px) (.int .i64 py) 23
  go_enter Try.func20, Try.ntmps20
  have HB0 := Lib.hid (Below.refl w.heap.size w)
  cases b with
  | false =>
    have e : fcell l (px, py) = 0 := if_neg (by rw [hb]; decide)
    rw [e]
    clear hb
    go_wp2_with (go_at_call 11; (with_reducible refine (HR.out _ (HA.out.kept hB)).mono ?_); rintro e w1 ⟨rfl, hb⟩; replace hB := hB.trans (hb.mono hB.size); clear hb)
    go_ret
    exact ⟨rfl, hB⟩
  | true =>
    have hR := (rightB_iff l).1 hb
    have e : fcell l (px, py) = ccell l (px, py) l.length := if_pos hb
    have hlen := hR.2.1
    have hlen4 := hR.1
    have HBD := Lib.hid (ccell_bd l (px, py))
    have HE := Lib.hid e
    clear hb hR e
    go_wp2_with (go_at_call 11; (with_reducible refine (HR.out _ (HA.out.kept hB)).mono ?_); rintro e w1 ⟨rfl, hb⟩; replace hB := hB.trans (hb.mono hB.size); replace C0 := C0.kept hb; clear hb)
    rename_i w1
    go_loopw [5, 6, 7, 8] (fun s i _ _ wr => ∃ k : Nat, k ≤ l.length ∧ i = .int .i64 k ∧ s = .int .i64 (ccell l (px, py) k) ∧ Below w.heap.size w wr ∧ Cell2 wr w.heap.size (.int .i64 px) (.int .i64 py)) (fun _ i _ _ _ => l.length - (intOf i).toNat)
    case atStart => exact ⟨0, Nat.zero_le _, rfl, rfl, hB, C0⟩
    case round =>
      clear hB C0
      obtain ⟨k, hk, rfl, rfl, hB, C0⟩ := hrel
      obtain ⟨t, ht⟩ : ∃ t, ccell l (px, py) k = t := ⟨_, rfl⟩
      by_cases hlt : k < l.length
      · have b0 := HBD.out k
        rw [ht] at b0 ⊢
        have hnx := fun w ha => refNext_any (.slice a l.length c) l k w ha hlt hl
        have hst := fun w ha => refSteep_any (.slice a l.length c) l k w ha hlt hl
        have HAR := Lib.hid (HA.out.kept (hB.mono (Nat.le_refl _)))
        have hs : ccell l (px, py) (k + 1) = t + edg (px, py) (pat l k) (nxt l k) := by rw [← ht]; rfl
        unfold edg at hs
        obtain ⟨g, o, c', ev, hc, hg, p1, p2⟩ := HAR.out.spot k hlt
        cases ev
        generalize stp (pat l k) (nxt l k) = b at *
        generalize pat l k = p at *
        generalize nxt l k = q at *
        obtain ⟨x1, y1⟩ := p
        obtain ⟨x2, y2⟩ := q
        simp only at p1 p2 hnx hs
        have T0 : -256 ≤ t := by omega
        have T1 : t ≤ 256 := by omega
        have HN := Lib.hid hnx
        have HST := Lib.hid hst
        clear hnx hst b0
        have j0 : (0 : Int) ≤ (k : Int) := by omega
        have j1 : (k : Int) < (l.length : Int) := by omega
        have HS := Lib.hid hs
        clear hs
        go_wp2
        refine wp_region_calmN 7 9 [(.cells #[.int .i64 0, .int .i64 0] 23, fun b => .pointer (some ⟨b, 0, none⟩)), (.cells #[.int .i64 0, .int .i64 0] 23, fun b => .pointer (some ⟨b, 0, none⟩))] (by kernel_rfl) (by simp) (by simp) (by kernel_rfl) fun M => ?_
        simp only [List.take_succ_cons, List.take_zero, List.drop_succ_cons, List.drop_zero, List.length_cons, List.length_nil, List.take_nil]
        have HP := Lib.hid fun n : In M.w => (HAR.out.kept M.h).kept n.h
        have q1 := fun n : In M.w => n.cell (M.cell p1)
        have q2 := fun n : In M.w => n.cell (M.cell p2)
        repeat (go_big_quiet_step ((go_at_call 35; with_reducible exact In.call (HN.out _ (HP.out _)))))
        refine wpQuiet_nil ?_
        clear HP q1 q2 M
        refine ⟨rfl, fun n => by simp [go_sem], fun u hu _ => ⟨rfl, fun n => by simp [go_sem], fun v hv hvu w2 hw => ?_⟩⟩
        have hne : v ≠ u := fun e => by rw [e, Gh.set_self] at hvu; cases hvu
        have hb := hw.below
        have C1 : Cell2 w2 u (.int .i64 0) (.int .i64 0) := Cell2.of_heap (hw.own u _ (by rw [Gh.set_ne _ (Ne.symm hne)]; exact Gh.set_self _ _ _))
        have C2 : Cell2 w2 v (.int .i64 0) (.int .i64 0) := Cell2.of_heap (hw.own v _ (Gh.set_self _ _ _))
        have hB2 : Below w.heap.size w w2 := hB.trans (hb.mono hB.size)
        have hz := World.block_lt_of_cell? _ _ C0.c0
        simp only at hz
        have hu' : w.heap.size < u := Nat.lt_of_lt_of_le hz hu
        have hv' : w.heap.size < v := Nat.lt_of_lt_of_le hz hv
        replace C0 := C0.kept hb
        have n5 : u ≠ v := Ne.symm hne
        have C1 := ((C1.set (.int .i64 x1) (.int .i64 y1)).away ⟨v, 0, none⟩ (.int .i64 x2) hne).away ⟨v, 1, none⟩ (.int .i64 y2) hne
        have C2 := ((C2.away ⟨u, 0, none⟩ (.int .i64 x1) n5).away ⟨u, 1, none⟩ (.int .i64 y1) n5).set (.int .i64 x2) (.int .i64 y2)
        have C0 := (((C0.away ⟨u, 0, none⟩ (.int .i64 x1) (by show u ≠ _; omega)).away ⟨u, 1, none⟩ (.int .i64 y1) (by show u ≠ _; omega)).away ⟨v, 0, none⟩ (.int .i64 x2) (by show v ≠ _; omega)).away ⟨v, 1, none⟩ (.int .i64 y2) (by show v ≠ _; omega)
        have hB3 : Below w.heap.size w ((((w2.setCell ⟨u, 0, none⟩ (.int .i64 x1)).setCell ⟨u, 1, none⟩ (.int .i64 y1)).setCell ⟨v, 0, none⟩ (.int .i64 x2)).setCell ⟨v, 1, none⟩ (.int .i64 y2)) := (((hB2.setCell (by simp; omega) _).setCell (by simp; omega) _).setCell (by simp; omega) _).setCell (by simp; omega) _
        have F10 := hw.own u _ (by rw [Gh.set_ne _ (Ne.symm hne)]; exact Gh.set_self _ _ _)
        have F20 := hw.own v _ (Gh.set_self _ _ _)
        obtain ⟨d10, d11, z10, z11⟩ := Cell2.of_heap F10
        obtain ⟨d20, d21, z20, z21⟩ := Cell2.of_heap F20
        have HC0 := Lib.hid C0
        have HC1 := Lib.hid C1
        have HC2 := Lib.hid C2
        have HB3 := Lib.hid hB3
        clear hb hw hvu p1 p2 hB HAR F10 F20 C0 C1 C2 hB3 hB2 hu hv hz
        obtain ⟨m, hm⟩ : ∃ m, min y1 y2 = m := ⟨_, rfl⟩
        obtain ⟨n, hn⟩ : ∃ n, max y1 y2 = n := ⟨_, rfl⟩
        have hcase : b = false ∨ (b = true ∧ x1 ≤ px) ∨ (b = true ∧ ¬ x1 ≤ px ∧ py < m) ∨ (b = true ∧ ¬ x1 ≤ px ∧ ¬ py < m ∧ n ≤ py) ∨ (b = true ∧ ¬ x1 ≤ px ∧ ¬ py < m ∧ ¬ n ≤ py ∧ y1 < y2) ∨ (b = true ∧ ¬ x1 ≤ px ∧ ¬ py < m ∧ ¬ n ≤ py ∧ ¬ y1 < y2) := by
          cases b <;> simp <;> omega
        obtain ⟨e, he⟩ : ∃ e, ccell l (px, py) (k + 1) = t + e := ⟨_, HS.out⟩
        have he2 : e = if b = true ∧ px < x1 ∧ m ≤ py ∧ py < n then (if y1 < y2 then 1 else -1) else 0 := by
          have h1 := HS.out
          rw [he, hm, hn] at h1
          exact Int.add_left_cancel h1
        have HE1 := Lib.hid he
        clear he HS
        have HS := HE1
        rcases hcase with rfl | ⟨rfl, h1⟩ | ⟨rfl, h1, h2⟩ | ⟨rfl, h1, h2, h3⟩ | ⟨rfl, h1, h2, h3, h4⟩ | ⟨rfl, h1, h2, h3, h4⟩
        rotate_left 4
        · rw [if_pos ⟨rfl, by omega, by omega, by omega⟩, if_pos h4] at he2
          cases he2
          go_wp2_with (go_at_call 30; (with_reducible refine (HST.out _ (HA.out.kept HB3.out)).mono ?_); rintro e w3 ⟨rfl, hb⟩; have hB4 := HB3.out.trans (hb.mono HB3.out.size); have D0 := Lib.hid (HC0.out.kept hb); obtain ⟨c00, c01, _, _⟩ := D0.out; obtain ⟨c10, c11, _, _⟩ := HC1.out.kept hb; obtain ⟨c20, c21, _, _⟩ := HC2.out.kept hb; clear hb HC0 HC1 HC2 HB3 d10 d11 z10 z11 d20 d21 z20 z21)
          go_roundw
          case rel => exact ⟨k + 1, by omega, by go_num, by first | (rw [HS.out]; done) | (rw [HS.out]; rfl), hB4, D0.out⟩
          case measure => simp [intOf]; omega
        · rw [if_pos ⟨rfl, by omega, by omega, by omega⟩, if_neg h4] at he2
          cases he2
          go_wp2_with (go_at_call 30; (with_reducible refine (HST.out _ (HA.out.kept HB3.out)).mono ?_); rintro e w3 ⟨rfl, hb⟩; have hB4 := HB3.out.trans (hb.mono HB3.out.size); have D0 := Lib.hid (HC0.out.kept hb); obtain ⟨c00, c01, _, _⟩ := D0.out; obtain ⟨c10, c11, _, _⟩ := HC1.out.kept hb; obtain ⟨c20, c21, _, _⟩ := HC2.out.kept hb; clear hb HC0 HC1 HC2 HB3 d10 d11 z10 z11 d20 d21 z20 z21)
          go_roundw
          case rel => exact ⟨k + 1, by omega, by go_num, by first | (rw [HS.out]; done) | (rw [HS.out]; rfl), hB4, D0.out⟩
          case measure => simp [intOf]; omega
        all_goals
          rw [if_neg (fun h => by obtain ⟨h5, h6, h7, h8⟩ := h; first | exact Bool.noConfusion h5 | omega)] at he2
          cases he2
          go_wp2_with (go_at_call 30; (with_reducible refine (HST.out _ (HA.out.kept HB3.out)).mono ?_); rintro e w3 ⟨rfl, hb⟩; have hB4 := HB3.out.trans (hb.mono HB3.out.size); have D0 := Lib.hid (HC0.out.kept hb); obtain ⟨c00, c01, _, _⟩ := D0.out; obtain ⟨c10, c11, _, _⟩ := HC1.out.kept hb; obtain ⟨c20, c21, _, _⟩ := HC2.out.kept hb; clear hb HC0 HC1 HC2 HB3 d10 d11 z10 z11 d20 d21 z20 z21)
          go_roundw
          case rel => exact ⟨k + 1, by omega, by go_num, by rw [HS.out, Int.add_zero], hB4, D0.out⟩
          case measure => simp [intOf]; omega
      · have hk2 : k = l.length := by omega
        rw [hk2] at ht ⊢
        rw [ht]
        have b0 := HBD.out l.length
        rw [ht] at b0
        have HT := Lib.hid ht
        clear ht hk hk2
        go_wp2
        go_ret
        exact ⟨ret_i (by rw [HE.out, HT.out]), hB⟩
end Go.Proofs.Ythndmoipemnllaa
