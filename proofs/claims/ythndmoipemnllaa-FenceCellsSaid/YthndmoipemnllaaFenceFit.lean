/- What the laws of layer 6 ask of fences: plain mathematics. -/
import Derived.Test.YthndmoipemnllaaFenceRefF
namespace Go.Proofs.Ythndmoipemnllaa

theorem blo_le (l : List (Int × Int)) (k : Nat) (i : Nat) (h : i < k) : (blo l k).1 ≤ (pat l i).1 ∧ (blo l k).2 ≤ (pat l i).2 := by
  induction k with
  | zero => omega
  | succ k ih =>
    by_cases hk : k = 0
    · subst hk
      have e : i = 0 := by omega
      subst e
      show min (pat l 0).1 (pat l 0).1 ≤ _ ∧ min (pat l 0).2 (pat l 0).2 ≤ _
      omega
    · rw [blo_next l k hk]
      by_cases hi : i = k
      · subst hi
        simp only
        omega
      · have := ih (by omega)
        simp only
        omega
theorem bhi_ge (l : List (Int × Int)) (k : Nat) (i : Nat) (h : i < k) : (pat l i).1 ≤ (bhi l k).1 ∧ (pat l i).2 ≤ (bhi l k).2 := by
  induction k with
  | zero => omega
  | succ k ih =>
    by_cases hk : k = 0
    · subst hk
      have e : i = 0 := by omega
      subst e
      show _ ≤ max (pat l 0).1 (pat l 0).1 ∧ _ ≤ max (pat l 0).2 (pat l 0).2
      omega
    · rw [bhi_next l k hk]
      by_cases hi : i = k
      · subst hi
        simp only
        omega
      · have := ih (by omega)
        simp only
        omega
theorem box_within (l : List (Int × Int)) : Within l (blo l l.length) (bhi l l.length) := by
  intro i hi
  have h1 := blo_le l l.length i hi
  have h2 := bhi_ge l l.length i hi
  exact ⟨h1.1, h2.1, h1.2, h2.2⟩

/-! ### The other way round -/
theorem fen_rev {l : List (Int × Int)} (h : rightB l = true) : rightB l.reverse = true ∧ fen l.reverse = -fen l ∧ ∀ p, fcell l.reverse p = -fcell l p := by
  have hr : rightB l.reverse = true := (rightB_iff _).2 (right_rev ((rightB_iff _).1 h))
  refine ⟨hr, ?_, fun p => ?_⟩
  · unfold fen
    rw [if_pos hr, if_pos h, area_rev, Int.neg_tdiv]
  · unfold fcell
    rw [if_pos hr, if_pos h, cell_rev]
theorem fen_bd {l : List (Int × Int)} (h : rightB l = true) : -1000000000000000000 ≤ fen l ∧ fen l ≤ 1000000000000000000 := by
  have hR := (rightB_iff l).1 h
  have h1 := carea_bd hR l.length (Nat.le_refl _)
  have e : fen l = (carea l l.length).tdiv 2 := if_pos h
  have := hR.2.1
  rw [e]
  have h2 : ((carea l l.length).tdiv 2).natAbs = (carea l l.length).natAbs / 2 := Int.natAbs_tdiv _ 2
  omega
theorem fcell_bd {l : List (Int × Int)} (h : rightB l = true) (p : Int × Int) : -256 ≤ fcell l p ∧ fcell l p ≤ 256 := by
  have hR := (rightB_iff l).1 h
  have h1 := ccell_bd l p l.length
  have e : fcell l p = ccell l p l.length := if_pos h
  have := hR.2.1
  omega

/-! ### Moved -/
theorem fx_in {n : Int} (h : -1048576 ≤ n ∧ n ≤ 1048576) : fx n = n := by unfold fx; omega
theorem rmv_in {p : Int × Int} (n x y : Int) (h : smallP p 1048576 = true) : rmv n x y p = mov (qr n) (fx x, fx y) p := by
  have := smallP_bd h
  unfold rmv
  rw [fx_in this.1, fx_in this.2]
theorem map_rmv {l : List (Int × Int)} (h : Right l) (n x y : Int) : l.map (rmv n x y) = l.map (mov (qr n) (fx x, fx y)) := by
  apply List.map_congr_left
  intro p hp
  obtain ⟨i, hi, rfl⟩ := List.getElem_of_mem hp
  have h1 := h.2.2.1 i hi
  have e : pat l i = l[i] := by
    have := pat_get l i hi
    rw [List.getElem?_eq_getElem hi] at this
    exact (Option.some.inj this).symm
  rw [e] at h1
  exact rmv_in n x y h1
theorem rot_bd (q : Nat) (a b m : Int) (ha : -m ≤ a ∧ a ≤ m) (hb : -m ≤ b ∧ b ≤ m) : (-m ≤ (rot q a b).1 ∧ (rot q a b).1 ≤ m) ∧ (-m ≤ (rot q a b).2 ∧ (rot q a b).2 ≤ m) := by
  induction q with
  | zero => exact ⟨ha, hb⟩
  | succ q ih =>
    have e : rot (q + 1) a b = (-(rot q a b).2, (rot q a b).1) := rfl
    rw [e]
    simp only
    omega
theorem fen_mov {l : List (Int × Int)} (h : rightB l = true) (n x y : Int) (h1 : smallB (blo l l.length).1 (blo l l.length).2 500 = true) (h2 : smallB (bhi l l.length).1 (bhi l l.length).2 500 = true) (h3 : smallB x y 500 = true) :
    rightB (l.map (rmv n x y)) = true ∧ fen (l.map (rmv n x y)) = fen l := by
  have hR := (rightB_iff l).1 h
  unfold smallB at h1 h2 h3
  simp only [decide_eq_true_eq] at h1 h2 h3
  have hw := box_within l
  rw [map_rmv hR, fx_in (n := x) (by omega), fx_in (n := y) (by omega)]
  have hs : ∀ i, i < l.length → smallP (mov (qr n) (x, y) (pat l i)) 1048576 = true := by
    intro i hi
    obtain ⟨w1, w2, w3, w4⟩ := hw i hi
    have hb := rot_bd (qr n) (pat l i).1 (pat l i).2 500 (by omega) (by omega)
    unfold smallP mov
    simp only [decide_eq_true_eq]
    omega
  have hr := right_mov hR (qr n) (x, y) hs
  have hr' := (rightB_iff _).2 hr
  refine ⟨hr', ?_⟩
  unfold fen
  rw [if_pos hr', if_pos h, area_mov]

/-! ### All cells -/
theorem fen_all {l : List (Int × Int)} (h : rightB l = true) (a b : Int × Int) (ha : blo l l.length = a) (hb : bhi l l.length = b) (m n : Nat) (hm : b.1 = a.1 - 1 + (m : Int) - 1) (hn : b.2 = a.2 - 1 + (n : Int) - 1) :
    sumN (fun x => sumN (fun y => fcell l (a.1 - 1 + x, a.2 - 1 + y)) n) m = fen l := by
  have hR := (rightB_iff l).1 h
  have hw := box_within l
  rw [ha, hb] at hw
  have e : fen l = (area2 l).tdiv 2 := if_pos h
  rw [e, area_sweep hR.ring]
  have e2 : (2 * sweep l).tdiv 2 = sweep l := Int.mul_tdiv_cancel_left _ (by decide)
  rw [e2, ← cells_all hR.ring hw m n hm hn]
  exact sumN_congr m fun x _ => sumN_congr n fun y _ => if_pos h
theorem fcell_out {l : List (Int × Int)} (h : rightB l = true) (a b p : Int × Int) (ha : blo l l.length = a) (hb : bhi l l.length = b) (ho : p.1 < a.1 ∨ p.2 < a.2 ∨ b.1 ≤ p.1 ∨ b.2 ≤ p.2) : fcell l p = 0 := by
  have hR := (rightB_iff l).1 h
  have hw := box_within l
  rw [ha, hb] at hw
  have e : fcell l p = cell l p := if_pos h
  rw [e]
  exact cell_out hR.ring hw ho
end Go.Proofs.Ythndmoipemnllaa
