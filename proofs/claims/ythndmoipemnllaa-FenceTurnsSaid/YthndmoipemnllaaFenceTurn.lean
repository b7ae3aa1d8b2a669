/- Fences the other way round, and moved: plain mathematics. -/
import Derived.Test.YthndmoipemnllaaFenceMath
import Derived.Test.YthndmoipemnllaaMotionA
namespace Go.Proofs.Ythndmoipemnllaa

/-! ### What a fence is -/
def smallP (p : Int × Int) (m : Int) : Bool := decide (-m ≤ p.1 ∧ p.1 ≤ m ∧ -m ≤ p.2 ∧ p.2 ≤ m)
def turnAt (l : List (Int × Int)) (i : Nat) : Bool :=
  (lev (pat l i) (nxt l i) && stp (nxt l i) (nxt l ((i + 1) % l.length))) || (stp (pat l i) (nxt l i) && lev (nxt l i) (nxt l ((i + 1) % l.length)))
def Right (l : List (Int × Int)) : Prop := 4 ≤ l.length ∧ l.length ≤ 256 ∧ (∀ i, i < l.length → smallP (pat l i) 1048576 = true) ∧ ∀ i, i < l.length → turnAt l i = true
theorem Right.ring {l : List (Int × Int)} (h : Right l) : Ring4 l := by
  intro i hi
  have := h.2.2.2 i hi
  unfold turnAt at this
  simp only [Bool.or_eq_true, Bool.and_eq_true] at this
  exact this.imp (fun h => h.1) (fun h => h.1)

/-- is it a fence? -/
def rightB (l : List (Int × Int)) : Bool := decide (4 ≤ l.length) && decide (l.length ≤ 256) && (List.range l.length).all (fun i => smallP (pat l i) 1048576) && (List.range l.length).all (turnAt l)
theorem rightB_iff (l : List (Int × Int)) : rightB l = true ↔ Right l := by
  unfold rightB Right
  simp only [Bool.and_eq_true, decide_eq_true_eq, List.all_eq_true, List.mem_range]
  exact ⟨fun ⟨⟨⟨a, b⟩, c⟩, d⟩ => ⟨a, b, c, d⟩, fun ⟨a, b, c, d⟩ => ⟨⟨⟨a, b⟩, c⟩, d⟩⟩
theorem rightB_no {l : List (Int × Int)} (h : ¬ Right l) : rightB l = false := by
  cases e : rightB l with
  | false => rfl
  | true => exact absurd ((rightB_iff l).1 e) h

/-! ### The other way round -/
theorem pat_rev (l : List (Int × Int)) (i : Nat) (h : i < l.length) : pat l.reverse i = pat l (l.length - 1 - i) := by
  unfold pat
  rw [List.getD_eq_getElem?_getD, List.getD_eq_getElem?_getD, List.getElem?_reverse h]
/-- the edge that another one is, the other way round -/
def bke (n i : Nat) : Nat := (2 * n - 2 - i) % n
theorem bke_lt {n i : Nat} (h : i < n) : bke n i < n := Nat.mod_lt _ (by omega)
theorem bke_of {n i : Nat} (h : i + 1 < n) : bke n i = n - 2 - i := by
  unfold bke
  rw [show 2 * n - 2 - i = n - 2 - i + n by omega, Nat.add_mod_right, Nat.mod_eq_of_lt (by omega)]
theorem bke_last {n : Nat} (h : 0 < n) : bke n (n - 1) = n - 1 := by
  unfold bke
  rw [show 2 * n - 2 - (n - 1) = n - 1 by omega, Nat.mod_eq_of_lt (by omega)]
theorem edge_rev (l : List (Int × Int)) (i : Nat) (h : i < l.length) : pat l.reverse i = nxt l (bke l.length i) ∧ nxt l.reverse i = pat l (bke l.length i) := by
  by_cases h1 : i + 1 < l.length
  · rw [bke_of h1, pat_rev l i h]
    refine ⟨?_, ?_⟩
    · unfold nxt
      rw [show l.length - 2 - i + 1 = l.length - 1 - i by omega, Nat.mod_eq_of_lt (by omega)]
    · unfold nxt
      rw [List.length_reverse, Nat.mod_eq_of_lt h1, pat_rev l _ h1]
      rw [show l.length - 1 - (i + 1) = l.length - 2 - i by omega]
  · have e : i = l.length - 1 := by omega
    subst e
    rw [bke_last (by omega), pat_rev l _ h]
    refine ⟨?_, ?_⟩
    · unfold nxt
      rw [show l.length - 1 + 1 = l.length by omega, Nat.mod_self, show l.length - 1 - (l.length - 1) = 0 by omega]
    · unfold nxt
      rw [List.length_reverse, show l.length - 1 + 1 = l.length by omega, Nat.mod_self, pat_rev l 0 (by omega)]
      rw [show l.length - 1 - 0 = l.length - 1 by omega]
theorem bke_sum (g : Nat → Int) (n : Nat) : sumN (fun i => g (bke n i)) n = sumN g n := by
  cases n with
  | zero => rfl
  | succ m =>
    have e : sumN (fun i => g (bke (m + 1) i)) (m + 1) = sumN (fun i => g (bke (m + 1) i)) m + g (bke (m + 1) m) := rfl
    have e2 : sumN g (m + 1) = sumN g m + g m := rfl
    have hl := bke_last (n := m + 1) (by omega)
    rw [show m + 1 - 1 = m by omega] at hl
    rw [e, e2, hl, ← sumN_rev g m]
    congr 1
    refine sumN_congr m fun i hi => ?_
    rw [bke_of (by omega), show m + 1 - 2 - i = m - 1 - i by omega]
theorem lev_swap (a b : Int × Int) : lev a b = lev b a := by
  unfold lev
  rw [show decide (a.2 = b.2) = decide (b.2 = a.2) by rw [decide_eq_decide]; omega, show decide (a.1 ≠ b.1) = decide (b.1 ≠ a.1) by rw [decide_eq_decide]; omega]
theorem stp_swap (a b : Int × Int) : stp a b = stp b a := by
  unfold stp
  rw [show decide (a.1 = b.1) = decide (b.1 = a.1) by rw [decide_eq_decide]; omega, show decide (a.2 ≠ b.2) = decide (b.2 ≠ a.2) by rw [decide_eq_decide]; omega]
theorem crs_swap (a b : Int × Int) : crs b a = -crs a b := by
  unfold crs
  rw [Int.mul_comm b.1, Int.mul_comm b.2]
  omega
theorem edg_swap (p a b : Int × Int) : edg p b a = -edg p a b := by
  unfold edg
  rw [stp_swap b a, Int.min_comm b.2, Int.max_comm b.2]
  by_cases hs : stp a b = true
  · have h2 := hs
    unfold stp at h2
    simp only [Bool.and_eq_true, decide_eq_true_eq] at h2
    rw [← h2.1]
    split
    · split <;> split <;> omega
    · rfl
  · rw [if_neg (fun h => hs h.1), if_neg (fun h => hs h.1)]
    rfl
theorem area_rev (l : List (Int × Int)) : area2 l.reverse = -area2 l := by
  unfold area2
  rw [List.length_reverse, ← sumN_neg, ← bke_sum (fun i => -crs (pat l i) (nxt l i))]
  refine sumN_congr l.length fun i hi => ?_
  obtain ⟨e1, e2⟩ := edge_rev l i hi
  rw [e1, e2, crs_swap]
theorem cell_rev (l : List (Int × Int)) (p : Int × Int) : cell l.reverse p = -cell l p := by
  unfold cell
  rw [List.length_reverse, ← sumN_neg, ← bke_sum (fun i => -edg p (pat l i) (nxt l i))]
  refine sumN_congr l.length fun i hi => ?_
  obtain ⟨e1, e2⟩ := edge_rev l i hi
  rw [e1, e2, edg_swap]
theorem bke_next {n i : Nat} (h : i < n) : (bke n ((i + 1) % n) + 1) % n = bke n i := by
  by_cases h1 : i + 1 < n
  · rw [Nat.mod_eq_of_lt h1, bke_of h1]
    by_cases h2 : i + 1 + 1 < n
    · rw [bke_of h2, Nat.mod_eq_of_lt (by omega)]
      omega
    · have e : i + 1 = n - 1 := by omega
      rw [e, bke_last (by omega), show n - 1 + 1 = n by omega, Nat.mod_self]
      omega
  · have e : i = n - 1 := by omega
    subst e
    rw [show n - 1 + 1 = n by omega, Nat.mod_self, bke_last (by omega)]
    by_cases h2 : 0 + 1 < n
    · rw [bke_of h2, Nat.mod_eq_of_lt (by omega)]
      omega
    · have : n = 1 := by omega
      subst this
      rfl
theorem nxt_of (l : List (Int × Int)) (i : Nat) : nxt l i = pat l ((i + 1) % l.length) := rfl
theorem right_rev {l : List (Int × Int)} (h : Right l) : Right l.reverse := by
  obtain ⟨h1, h2, h3, h4⟩ := h
  refine ⟨by simpa using h1, by simpa using h2, ?_, ?_⟩
  · intro i hi
    rw [List.length_reverse] at hi
    rw [pat_rev l i hi]
    exact h3 _ (by omega)
  · intro i hi
    rw [List.length_reverse] at hi
    obtain ⟨e1, e2⟩ := edge_rev l i hi
    have hk : (i + 1) % l.length < l.length := Nat.mod_lt _ (by omega)
    obtain ⟨f1, f2⟩ := edge_rev l _ hk
    have hb := bke_next hi
    have ht := h4 (bke l.length ((i + 1) % l.length)) (bke_lt hk)
    unfold turnAt at ht ⊢
    rw [List.length_reverse, e1, e2, f2]
    rw [hb, nxt_of l (bke l.length ((i + 1) % l.length)), hb] at ht
    rw [stp_swap (pat l (bke l.length i)), lev_swap (pat l (bke l.length i)), lev_swap (nxt l (bke l.length i)), stp_swap (nxt l (bke l.length i))]
    simp only [Bool.or_eq_true, Bool.and_eq_true] at ht ⊢
    rcases ht with ⟨t1, t2⟩ | ⟨t1, t2⟩
    · exact .inr ⟨t2, t1⟩
    · exact .inl ⟨t2, t1⟩

/-! ### Moved -/
def mov (q : Nat) (t : Int × Int) (p : Int × Int) : Int × Int := ((rot q p.1 p.2).1 + t.1, (rot q p.1 p.2).2 + t.2)
theorem pat_map (f : Int × Int → Int × Int) (l : List (Int × Int)) (i : Nat) (h : i < l.length) : pat (l.map f) i = f (pat l i) := by
  unfold pat
  rw [List.getD_eq_getElem?_getD, List.getD_eq_getElem?_getD, List.getElem?_map, List.getElem?_eq_getElem h]
  rfl
theorem nxt_map (f : Int × Int → Int × Int) (l : List (Int × Int)) (i : Nat) (h : i < l.length) : nxt (l.map f) i = f (nxt l i) := by
  unfold nxt
  rw [List.length_map, pat_map f l _ (Nat.mod_lt _ (by omega))]
theorem rot_turn (q : Nat) (p r : Int × Int) : (lev (mov q (0, 0) p) (mov q (0, 0) r) = if q % 2 = 0 then lev p r else stp p r) ∧ (stp (mov q (0, 0) p) (mov q (0, 0) r) = if q % 2 = 0 then stp p r else lev p r) := by
  obtain ⟨x, y⟩ := p
  obtain ⟨u, v⟩ := r
  have e := rot_mod q x y
  have f := rot_mod q u v
  unfold mov
  simp only
  rw [← e, ← f]
  have h : q % 4 = 0 ∨ q % 4 = 1 ∨ q % 4 = 2 ∨ q % 4 = 3 := by omega
  rcases h with h | h | h | h <;> rw [h]
  · rw [if_pos (by omega), if_pos (by omega)]
    unfold lev stp
    simp only [show ∀ a b : Int, rot 0 a b = (a, b) from fun a b => rfl, Int.add_zero]
    exact ⟨trivial, trivial⟩
  · rw [if_neg (by omega), if_neg (by omega)]
    unfold lev stp
    simp only [show ∀ a b : Int, rot 1 a b = (-b, a) from fun a b => rfl, Int.add_zero]
    refine ⟨?_, ?_⟩ <;> congr 1 <;> rw [decide_eq_decide] <;> omega
  · rw [if_pos (by omega), if_pos (by omega)]
    unfold lev stp
    simp only [show ∀ a b : Int, rot 2 a b = (-a, -b) from fun a b => rfl, Int.add_zero]
    refine ⟨?_, ?_⟩ <;> congr 1 <;> rw [decide_eq_decide] <;> omega
  · rw [if_neg (by omega), if_neg (by omega)]
    unfold lev stp
    simp only [show ∀ a b : Int, rot 3 a b = (b, -a) from fun a b => by show (-(-b), -a) = (b, -a); rw [Int.neg_neg], Int.add_zero]
    refine ⟨?_, ?_⟩ <;> congr 1 <;> rw [decide_eq_decide] <;> omega
theorem lev_shift (t a b : Int × Int) : lev (a.1 + t.1, a.2 + t.2) (b.1 + t.1, b.2 + t.2) = lev a b ∧ stp (a.1 + t.1, a.2 + t.2) (b.1 + t.1, b.2 + t.2) = stp a b := by
  unfold lev stp
  simp only
  refine ⟨?_, ?_⟩ <;> congr 1 <;> rw [decide_eq_decide] <;> omega
theorem mov_turn (q : Nat) (t p r : Int × Int) : (lev (mov q t p) (mov q t r) = if q % 2 = 0 then lev p r else stp p r) ∧ (stp (mov q t p) (mov q t r) = if q % 2 = 0 then stp p r else lev p r) := by
  obtain ⟨h1, h2⟩ := rot_turn q p r
  obtain ⟨k1, k2⟩ := lev_shift t (mov q (0, 0) p) (mov q (0, 0) r)
  have e : ∀ s, ((mov q (0, 0) s).1 + t.1, (mov q (0, 0) s).2 + t.2) = mov q t s := fun s => by unfold mov; simp only [Int.add_zero]
  rw [e, e] at k1 k2
  rw [k1, k2]
  exact ⟨h1, h2⟩
theorem right_mov {l : List (Int × Int)} (h : Right l) (q : Nat) (t : Int × Int) (hs : ∀ i, i < l.length → smallP (mov q t (pat l i)) 1048576 = true) : Right (l.map (mov q t)) := by
  obtain ⟨h1, h2, h3, h4⟩ := h
  refine ⟨by simpa using h1, by simpa using h2, ?_, ?_⟩
  · intro i hi
    rw [List.length_map] at hi
    rw [pat_map _ l i hi]
    exact hs i hi
  · intro i hi
    rw [List.length_map] at hi
    have ht := h4 i hi
    have hk : (i + 1) % l.length < l.length := Nat.mod_lt _ (by omega)
    unfold turnAt at ht ⊢
    rw [List.length_map, pat_map _ l i hi, nxt_map _ l i hi, nxt_map _ l _ hk]
    obtain ⟨a1, a2⟩ := mov_turn q t (pat l i) (nxt l i)
    obtain ⟨b1, b2⟩ := mov_turn q t (nxt l i) (nxt l ((i + 1) % l.length))
    rw [a1, a2, b1, b2]
    simp only [Bool.or_eq_true, Bool.and_eq_true] at ht ⊢
    split
    · exact ht
    · exact ht.symm
theorem crs_rot (q : Nat) (p r : Int × Int) : crs (rot q p.1 p.2) (rot q r.1 r.2) = crs p r := by
  obtain ⟨x, y⟩ := p
  obtain ⟨u, v⟩ := r
  have e := rot_mod q x y
  have f := rot_mod q u v
  simp only
  rw [← e, ← f]
  have h : q % 4 = 0 ∨ q % 4 = 1 ∨ q % 4 = 2 ∨ q % 4 = 3 := by omega
  rcases h with h | h | h | h <;> rw [h] <;> unfold crs
  · rfl
  · simp only [show ∀ a b : Int, rot 1 a b = (-b, a) from fun a b => rfl, Int.neg_mul, Int.mul_neg]
    rw [Int.mul_comm y u, Int.mul_comm x v]
    rw [Int.mul_comm v x, Int.mul_comm u y]
    omega
  · simp only [show ∀ a b : Int, rot 2 a b = (-a, -b) from fun a b => rfl, Int.neg_mul, Int.mul_neg, Int.neg_neg]
  · simp only [show ∀ a b : Int, rot 3 a b = (b, -a) from fun a b => by show (-(-b), -a) = (b, -a); rw [Int.neg_neg], Int.neg_mul, Int.mul_neg]
    omega
theorem crs_shift (t a b : Int × Int) : crs (a.1 + t.1, a.2 + t.2) (b.1 + t.1, b.2 + t.2) = crs a b + ((t.1 * b.2 - t.2 * b.1) - (t.1 * a.2 - t.2 * a.1)) := by
  unfold crs
  simp only [Int.add_mul, Int.mul_add]
  rw [Int.mul_comm a.1 t.2, Int.mul_comm a.2 t.1, Int.mul_comm t.2 t.1]
  omega
theorem area_mov (l : List (Int × Int)) (q : Nat) (t : Int × Int) : area2 (l.map (mov q t)) = area2 l := by
  have e1 : area2 (l.map (mov q t)) = sumN (fun i => crs (pat l i) (nxt l i) + ((t.1 * (rot q (nxt l i).1 (nxt l i).2).2 - t.2 * (rot q (nxt l i).1 (nxt l i).2).1) - (t.1 * (rot q (pat l i).1 (pat l i).2).2 - t.2 * (rot q (pat l i).1 (pat l i).2).1))) l.length := by
    unfold area2
    rw [List.length_map]
    refine sumN_congr l.length fun i hi => ?_
    rw [pat_map _ l i hi, nxt_map _ l i hi]
    have h := crs_shift t (rot q (pat l i).1 (pat l i).2) (rot q (nxt l i).1 (nxt l i).2)
    rw [crs_rot] at h
    exact h
  rw [e1, sumN_add]
  have := ring_diff l fun p => t.1 * (rot q p.1 p.2).2 - t.2 * (rot q p.1 p.2).1
  rw [this]
  unfold area2
  omega
end Go.Proofs.Ythndmoipemnllaa
