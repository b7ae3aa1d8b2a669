/- Texts of this proof, joined: FenceTurn; FenceRefA; FenceRefB; FenceRefC; FenceRefD; FenceRefE; PlanMath; PlanMathB; PlanRefD; IntsAt; OwnInts; Bytes. -/
import Derived.Test.YthchkhgimnchcaaGreatBun4
import Derived.Test.YthchkhgimnchcaaGreatRows
import Derived.WalkKit
import Derived.ChangeSlices
import Derived.WideShapes
import Derived.Below
import Derived.WalkSpells
import Derived.WalkLawsBesides
import Derived.Laws.AppendOwnNone
import Derived.Laws.IdiomStrings
import Derived.Laws.BytesString
/- Fences the other way round, and moved: plain mathematics. -/
namespace Go.Proofs.YthchkhgimnchcaaGreat

/-! ### What a fence is -/
def smallP (p : Int × Int) (m : Int) : Bool := decide (-m ≤ p.1 ∧ p.1 ≤ m ∧ -m ≤ p.2 ∧ p.2 ≤ m)
def turnAt (l : List (Int × Int)) (i : Nat) : Bool :=
  (levF (pat l i) (nxt l i) && stpF (nxt l i) (nxt l ((i + 1) % l.length))) || (stpF (pat l i) (nxt l i) && levF (nxt l i) (nxt l ((i + 1) % l.length)))
def Right (l : List (Int × Int)) : Prop := 4 ≤ l.length ∧ l.length ≤ 256 ∧ (∀ i, i < l.length → smallP (pat l i) 1048576 = true) ∧ ∀ i, i < l.length → turnAt l i = true
theorem Right.ring {l : List (Int × Int)} (h : Right l) : Ring4 l := by
  intro i hi
  have := h.2.2.2 i hi
  unfold turnAt at this
  simp only [Bool.or_eq_true, Bool.and_eq_true] at this
  exact this.imp (fun h => h.1) (fun h => h.1)

/-- is it a fence? -/
def rightF (l : List (Int × Int)) : Bool := decide (4 ≤ l.length) && decide (l.length ≤ 256) && (List.range l.length).all (fun i => smallP (pat l i) 1048576) && (List.range l.length).all (turnAt l)
theorem rightB_iff (l : List (Int × Int)) : rightF l = true ↔ Right l := by
  unfold rightF Right
  simp only [Bool.and_eq_true, decide_eq_true_eq, List.all_eq_true, List.mem_range]
  exact ⟨fun ⟨⟨⟨a, b⟩, c⟩, d⟩ => ⟨a, b, c, d⟩, fun ⟨a, b, c, d⟩ => ⟨⟨⟨a, b⟩, c⟩, d⟩⟩
theorem rightB_no {l : List (Int × Int)} (h : ¬ Right l) : rightF l = false := by
  cases e : rightF l with
  | false => rfl
  | true => exact absurd ((rightB_iff l).1 e) h

/-! ### The other way round -/
theorem pat_rev (l : List (Int × Int)) (i : Nat) (h : i < l.length) : pat l.reverse i = pat l (l.length - 1 - i) := by
  unfold pat
  rw [List.getD_eq_getElem?_getD, List.getD_eq_getElem?_getD, List.getElem?_reverse h]
/-- the edge that another one is, the other way round -/
def bke (n i : Nat) : Nat := (2 * n - 2 - i) % n
theorem bke_lt {n i : Nat} (h : i < n) : bke n i < n := Nat.mod_lt _ (by omega)
theorem bke_of {n i : Nat} (h : i + 1 < n) : bke n i = n - 2 - i := by
  unfold bke
  rw [show 2 * n - 2 - i = n - 2 - i + n by omega, Nat.add_mod_right, Nat.mod_eq_of_lt (by omega)]
theorem bke_last {n : Nat} (h : 0 < n) : bke n (n - 1) = n - 1 := by
  unfold bke
  rw [show 2 * n - 2 - (n - 1) = n - 1 by omega, Nat.mod_eq_of_lt (by omega)]
theorem edge_rev (l : List (Int × Int)) (i : Nat) (h : i < l.length) : pat l.reverse i = nxt l (bke l.length i) ∧ nxt l.reverse i = pat l (bke l.length i) := by
  by_cases h1 : i + 1 < l.length
  · rw [bke_of h1, pat_rev l i h]
    refine ⟨?_, ?_⟩
    · unfold nxt
      rw [show l.length - 2 - i + 1 = l.length - 1 - i by omega, Nat.mod_eq_of_lt (by omega)]
    · unfold nxt
      rw [List.length_reverse, Nat.mod_eq_of_lt h1, pat_rev l _ h1]
      rw [show l.length - 1 - (i + 1) = l.length - 2 - i by omega]
  · have e : i = l.length - 1 := by omega
    subst e
    rw [bke_last (by omega), pat_rev l _ h]
    refine ⟨?_, ?_⟩
    · unfold nxt
      rw [show l.length - 1 + 1 = l.length by omega, Nat.mod_self, show l.length - 1 - (l.length - 1) = 0 by omega]
    · unfold nxt
      rw [List.length_reverse, show l.length - 1 + 1 = l.length by omega, Nat.mod_self, pat_rev l 0 (by omega)]
      rw [show l.length - 1 - 0 = l.length - 1 by omega]
theorem bke_sum (g : Nat → Int) (n : Nat) : sumN (fun i => g (bke n i)) n = sumN g n := by
  cases n with
  | zero => rfl
  | succ m =>
    have e : sumN (fun i => g (bke (m + 1) i)) (m + 1) = sumN (fun i => g (bke (m + 1) i)) m + g (bke (m + 1) m) := rfl
    have e2 : sumN g (m + 1) = sumN g m + g m := rfl
    have hl := bke_last (n := m + 1) (by omega)
    rw [show m + 1 - 1 = m by omega] at hl
    rw [e, e2, hl, ← sumN_rev g m]
    congr 1
    refine sumN_congr m fun i hi => ?_
    rw [bke_of (by omega), show m + 1 - 2 - i = m - 1 - i by omega]
theorem lev_swap (a b : Int × Int) : levF a b = levF b a := by
  unfold levF
  rw [show decide (a.2 = b.2) = decide (b.2 = a.2) by rw [decide_eq_decide]; omega, show decide (a.1 ≠ b.1) = decide (b.1 ≠ a.1) by rw [decide_eq_decide]; omega]
theorem stp_swap (a b : Int × Int) : stpF a b = stpF b a := by
  unfold stpF
  rw [show decide (a.1 = b.1) = decide (b.1 = a.1) by rw [decide_eq_decide]; omega, show decide (a.2 ≠ b.2) = decide (b.2 ≠ a.2) by rw [decide_eq_decide]; omega]
theorem crs_swap (a b : Int × Int) : crs b a = -crs a b := by
  unfold crs
  rw [Int.mul_comm b.1, Int.mul_comm b.2]
  omega
theorem edg_swap (p a b : Int × Int) : edg p b a = -edg p a b := by
  unfold edg
  rw [stp_swap b a, Int.min_comm b.2, Int.max_comm b.2]
  by_cases hs : stpF a b = true
  · have h2 := hs
    unfold stpF at h2
    simp only [Bool.and_eq_true, decide_eq_true_eq] at h2
    rw [← h2.1]
    split
    · split <;> split <;> omega
    · rfl
  · rw [if_neg (fun h => hs h.1), if_neg (fun h => hs h.1)]
    rfl
theorem area_rev (l : List (Int × Int)) : area2 l.reverse = -area2 l := by
  unfold area2
  rw [List.length_reverse, ← sumN_neg, ← bke_sum (fun i => -crs (pat l i) (nxt l i))]
  refine sumN_congr l.length fun i hi => ?_
  obtain ⟨e1, e2⟩ := edge_rev l i hi
  rw [e1, e2, crs_swap]
theorem cell_rev (l : List (Int × Int)) (p : Int × Int) : cell l.reverse p = -cell l p := by
  unfold cell
  rw [List.length_reverse, ← sumN_neg, ← bke_sum (fun i => -edg p (pat l i) (nxt l i))]
  refine sumN_congr l.length fun i hi => ?_
  obtain ⟨e1, e2⟩ := edge_rev l i hi
  rw [e1, e2, edg_swap]
theorem bke_next {n i : Nat} (h : i < n) : (bke n ((i + 1) % n) + 1) % n = bke n i := by
  by_cases h1 : i + 1 < n
  · rw [Nat.mod_eq_of_lt h1, bke_of h1]
    by_cases h2 : i + 1 + 1 < n
    · rw [bke_of h2, Nat.mod_eq_of_lt (by omega)]
      omega
    · have e : i + 1 = n - 1 := by omega
      rw [e, bke_last (by omega), show n - 1 + 1 = n by omega, Nat.mod_self]
      omega
  · have e : i = n - 1 := by omega
    subst e
    rw [show n - 1 + 1 = n by omega, Nat.mod_self, bke_last (by omega)]
    by_cases h2 : 0 + 1 < n
    · rw [bke_of h2, Nat.mod_eq_of_lt (by omega)]
      omega
    · have : n = 1 := by omega
      subst this
      rfl
theorem nxt_of (l : List (Int × Int)) (i : Nat) : nxt l i = pat l ((i + 1) % l.length) := rfl
theorem right_rev {l : List (Int × Int)} (h : Right l) : Right l.reverse := by
  obtain ⟨h1, h2, h3, h4⟩ := h
  refine ⟨by simpa using h1, by simpa using h2, ?_, ?_⟩
  · intro i hi
    rw [List.length_reverse] at hi
    rw [pat_rev l i hi]
    exact h3 _ (by omega)
  · intro i hi
    rw [List.length_reverse] at hi
    obtain ⟨e1, e2⟩ := edge_rev l i hi
    have hk : (i + 1) % l.length < l.length := Nat.mod_lt _ (by omega)
    obtain ⟨f1, f2⟩ := edge_rev l _ hk
    have hb := bke_next hi
    have ht := h4 (bke l.length ((i + 1) % l.length)) (bke_lt hk)
    unfold turnAt at ht ⊢
    rw [List.length_reverse, e1, e2, f2]
    rw [hb, nxt_of l (bke l.length ((i + 1) % l.length)), hb] at ht
    rw [stp_swap (pat l (bke l.length i)), lev_swap (pat l (bke l.length i)), lev_swap (nxt l (bke l.length i)), stp_swap (nxt l (bke l.length i))]
    simp only [Bool.or_eq_true, Bool.and_eq_true] at ht ⊢
    rcases ht with ⟨t1, t2⟩ | ⟨t1, t2⟩
    · exact .inr ⟨t2, t1⟩
    · exact .inl ⟨t2, t1⟩

/-! ### Moved -/
def mov (q : Nat) (t : Int × Int) (p : Int × Int) : Int × Int := ((rot q p.1 p.2).1 + t.1, (rot q p.1 p.2).2 + t.2)
theorem pat_map (f : Int × Int → Int × Int) (l : List (Int × Int)) (i : Nat) (h : i < l.length) : pat (l.map f) i = f (pat l i) := by
  unfold pat
  rw [List.getD_eq_getElem?_getD, List.getD_eq_getElem?_getD, List.getElem?_map, List.getElem?_eq_getElem h]
  rfl
theorem nxt_map (f : Int × Int → Int × Int) (l : List (Int × Int)) (i : Nat) (h : i < l.length) : nxt (l.map f) i = f (nxt l i) := by
  unfold nxt
  rw [List.length_map, pat_map f l _ (Nat.mod_lt _ (by omega))]
theorem rot_turn (q : Nat) (p r : Int × Int) : (levF (mov q (0, 0) p) (mov q (0, 0) r) = if q % 2 = 0 then levF p r else stpF p r) ∧ (stpF (mov q (0, 0) p) (mov q (0, 0) r) = if q % 2 = 0 then stpF p r else levF p r) := by
  obtain ⟨x, y⟩ := p
  obtain ⟨u, v⟩ := r
  have e := rot_mod q x y
  have f := rot_mod q u v
  unfold mov
  simp only
  rw [← e, ← f]
  have h : q % 4 = 0 ∨ q % 4 = 1 ∨ q % 4 = 2 ∨ q % 4 = 3 := by omega
  rcases h with h | h | h | h <;> rw [h]
  · rw [if_pos (by omega), if_pos (by omega)]
    unfold levF stpF
    simp only [show ∀ a b : Int, rot 0 a b = (a, b) from fun a b => rfl, Int.add_zero]
    exact ⟨trivial, trivial⟩
  · rw [if_neg (by omega), if_neg (by omega)]
    unfold levF stpF
    simp only [show ∀ a b : Int, rot 1 a b = (-b, a) from fun a b => rfl, Int.add_zero]
    refine ⟨?_, ?_⟩ <;> congr 1 <;> rw [decide_eq_decide] <;> omega
  · rw [if_pos (by omega), if_pos (by omega)]
    unfold levF stpF
    simp only [show ∀ a b : Int, rot 2 a b = (-a, -b) from fun a b => rfl, Int.add_zero]
    refine ⟨?_, ?_⟩ <;> congr 1 <;> rw [decide_eq_decide] <;> omega
  · rw [if_neg (by omega), if_neg (by omega)]
    unfold levF stpF
    simp only [show ∀ a b : Int, rot 3 a b = (b, -a) from fun a b => by show (-(-b), -a) = (b, -a); rw [Int.neg_neg], Int.add_zero]
    refine ⟨?_, ?_⟩ <;> congr 1 <;> rw [decide_eq_decide] <;> omega
theorem lev_shift (t a b : Int × Int) : levF (a.1 + t.1, a.2 + t.2) (b.1 + t.1, b.2 + t.2) = levF a b ∧ stpF (a.1 + t.1, a.2 + t.2) (b.1 + t.1, b.2 + t.2) = stpF a b := by
  unfold levF stpF
  simp only
  refine ⟨?_, ?_⟩ <;> congr 1 <;> rw [decide_eq_decide] <;> omega
theorem mov_turn (q : Nat) (t p r : Int × Int) : (levF (mov q t p) (mov q t r) = if q % 2 = 0 then levF p r else stpF p r) ∧ (stpF (mov q t p) (mov q t r) = if q % 2 = 0 then stpF p r else levF p r) := by
  obtain ⟨h1, h2⟩ := rot_turn q p r
  obtain ⟨k1, k2⟩ := lev_shift t (mov q (0, 0) p) (mov q (0, 0) r)
  have e : ∀ s, ((mov q (0, 0) s).1 + t.1, (mov q (0, 0) s).2 + t.2) = mov q t s := fun s => by unfold mov; simp only [Int.add_zero]
  rw [e, e] at k1 k2
  rw [k1, k2]
  exact ⟨h1, h2⟩
theorem right_mov {l : List (Int × Int)} (h : Right l) (q : Nat) (t : Int × Int) (hs : ∀ i, i < l.length → smallP (mov q t (pat l i)) 1048576 = true) : Right (l.map (mov q t)) := by
  obtain ⟨h1, h2, h3, h4⟩ := h
  refine ⟨by simpa using h1, by simpa using h2, ?_, ?_⟩
  · intro i hi
    rw [List.length_map] at hi
    rw [pat_map _ l i hi]
    exact hs i hi
  · intro i hi
    rw [List.length_map] at hi
    have ht := h4 i hi
    have hk : (i + 1) % l.length < l.length := Nat.mod_lt _ (by omega)
    unfold turnAt at ht ⊢
    rw [List.length_map, pat_map _ l i hi, nxt_map _ l i hi, nxt_map _ l _ hk]
    obtain ⟨a1, a2⟩ := mov_turn q t (pat l i) (nxt l i)
    obtain ⟨b1, b2⟩ := mov_turn q t (nxt l i) (nxt l ((i + 1) % l.length))
    rw [a1, a2, b1, b2]
    simp only [Bool.or_eq_true, Bool.and_eq_true] at ht ⊢
    split
    · exact ht
    · exact ht.symm
theorem crs_rot (q : Nat) (p r : Int × Int) : crs (rot q p.1 p.2) (rot q r.1 r.2) = crs p r := by
  obtain ⟨x, y⟩ := p
  obtain ⟨u, v⟩ := r
  have e := rot_mod q x y
  have f := rot_mod q u v
  simp only
  rw [← e, ← f]
  have h : q % 4 = 0 ∨ q % 4 = 1 ∨ q % 4 = 2 ∨ q % 4 = 3 := by omega
  rcases h with h | h | h | h <;> rw [h] <;> unfold crs
  · rfl
  · simp only [show ∀ a b : Int, rot 1 a b = (-b, a) from fun a b => rfl, Int.neg_mul, Int.mul_neg]
    rw [Int.mul_comm y u, Int.mul_comm x v]
    rw [Int.mul_comm v x, Int.mul_comm u y]
    omega
  · simp only [show ∀ a b : Int, rot 2 a b = (-a, -b) from fun a b => rfl, Int.neg_mul, Int.mul_neg, Int.neg_neg]
  · simp only [show ∀ a b : Int, rot 3 a b = (b, -a) from fun a b => by show (-(-b), -a) = (b, -a); rw [Int.neg_neg], Int.neg_mul, Int.mul_neg]
    omega
theorem crs_shift (t a b : Int × Int) : crs (a.1 + t.1, a.2 + t.2) (b.1 + t.1, b.2 + t.2) = crs a b + ((t.1 * b.2 - t.2 * b.1) - (t.1 * a.2 - t.2 * a.1)) := by
  unfold crs
  simp only [Int.add_mul, Int.mul_add]
  rw [Int.mul_comm a.1 t.2, Int.mul_comm a.2 t.1, Int.mul_comm t.2 t.1]
  omega
theorem area_mov (l : List (Int × Int)) (q : Nat) (t : Int × Int) : area2 (l.map (mov q t)) = area2 l := by
  have e1 : area2 (l.map (mov q t)) = sumN (fun i => crs (pat l i) (nxt l i) + ((t.1 * (rot q (nxt l i).1 (nxt l i).2).2 - t.2 * (rot q (nxt l i).1 (nxt l i).2).1) - (t.1 * (rot q (pat l i).1 (pat l i).2).2 - t.2 * (rot q (pat l i).1 (pat l i).2).1))) l.length := by
    unfold area2
    rw [List.length_map]
    refine sumN_congr l.length fun i hi => ?_
    rw [pat_map _ l i hi, nxt_map _ l i hi]
    have h := crs_shift t (rot q (pat l i).1 (pat l i).2) (rot q (nxt l i).1 (nxt l i).2)
    rw [crs_rot] at h
    exact h
  rw [e1, sumN_add]
  have := ring_diff l fun p => t.1 * (rot q p.1 p.2).2 - t.2 * (rot q p.1 p.2).1
  rw [this]
  unfold area2
  omega
end Go.Proofs.YthchkhgimnchcaaGreat
/- The walks of the document's answers for layer 6: corners, edges, what is a fence. -/
namespace Go.Proofs.YthchkhgimnchcaaGreat
open Go.RowKit

theorem field_x (a b : Int) (w : World) : (Instr.field 47 (.agg #[.int .i64 a, .int .i64 b]) 0).run Tryz.prog w = .ok (.int .i64 a) w := by
  simp [Instr.field, run_underlying Tryz.underlying47, asAgg, go_sem]
theorem field_y (a b : Int) (w : World) : (Instr.field 47 (.agg #[.int .i64 a, .int .i64 b]) 1).run Tryz.prog w = .ok (.int .i64 b) w := by
  simp [Instr.field, run_underlying Tryz.underlying47, asAgg, go_sem]
attribute [local go_sem high] field_x field_y

theorem pat_get (l : List (Int × Int)) (k : Nat) (h : k < l.length) : l[k]? = some (pat l k) := by
  unfold pat
  rw [List.getD_eq_getElem?_getD, List.getElem?_eq_getElem h]
  rfl
theorem PairsAt.spot {w : World} {va : Value} {l : List (Int × Int)} (h : PairsAt w va l) (k : Nat) (hk : k < l.length) : ∃ g o c, va = .slice (some ⟨g, o, none⟩) l.length c ∧ l.length ≤ c ∧ g < w.heap.size ∧ w.cell? ⟨g, o + k * 2, none⟩ = some (.int .i64 (pat l k).1) ∧ w.cell? ⟨g, o + k * 2 + 1, none⟩ = some (.int .i64 (pat l k).2) := by
  obtain ⟨a, c, rfl, hc, hx⟩ := h
  obtain ⟨g, o, rfl, hg, hxa⟩ := hx (by omega)
  obtain ⟨h1, h2⟩ := hxa k _ (pat_get l k hk)
  exact ⟨g, o, c, rfl, hc, hg, h1, h2⟩

end Go.Proofs.YthchkhgimnchcaaGreat
/- The walks of the document's answers for layer 6: is it a fence? -/
namespace Go.Proofs.YthchkhgimnchcaaGreat
open Go.RowKit

theorem rightB_small {l : List (Int × Int)} (i : Nat) (hi : i < l.length) (h : smallP (pat l i) 1048576 = false) : rightF l = false :=
  rightB_no fun hr => by rw [hr.2.2.1 i hi] at h; cases h
theorem rightB_turn {l : List (Int × Int)} (i : Nat) (hi : i < l.length) (h : turnAt l i = false) : rightF l = false :=
  rightB_no fun hr => by rw [hr.2.2.2 i hi] at h; cases h

end Go.Proofs.YthchkhgimnchcaaGreat
/- The walks of the document's answers for layer 6: how much it holds. -/
namespace Go.Proofs.YthchkhgimnchcaaGreat
open Go.RowKit
attribute [local go_sem high] field_x field_y

theorem small_mul {x y : Int} (h1 : -1048576 ≤ x ∧ x ≤ 1048576) (h2 : -1048576 ≤ y ∧ y ≤ 1048576) : -1099511627776 ≤ x * y ∧ x * y ≤ 1099511627776 := by
  have hx : x.natAbs ≤ 1048576 := by omega
  have hy : y.natAbs ≤ 1048576 := by omega
  have h : (x * y).natAbs ≤ 1048576 * 1048576 := by rw [Int.natAbs_mul]; exact Nat.mul_le_mul hx hy
  omega
theorem smallP_bd {p : Int × Int} (h : smallP p 1048576 = true) : (-1048576 ≤ p.1 ∧ p.1 ≤ 1048576) ∧ (-1048576 ≤ p.2 ∧ p.2 ≤ 1048576) := by
  unfold smallP at h
  simp only [decide_eq_true_eq] at h
  exact ⟨⟨h.1, h.2.1⟩, h.2.2.1, h.2.2.2⟩
/-- the sum so far -/
def carea (l : List (Int × Int)) (k : Nat) : Int := sumN (fun i => crs (pat l i) (nxt l i)) k
theorem carea_bd {l : List (Int × Int)} (h : Right l) (k : Nat) (hk : k ≤ l.length) : -(2199023255552 * (k : Int)) ≤ carea l k ∧ carea l k ≤ 2199023255552 * (k : Int) := by
  induction k with
  | zero => simp [carea, sumN]
  | succ k ih =>
    have h0 := ih (by omega)
    have e : carea l (k + 1) = carea l k + crs (pat l k) (nxt l k) := rfl
    have ha := smallP_bd (h.2.2.1 k (by omega))
    have hb := smallP_bd (h.2.2.1 ((k + 1) % l.length) (Nat.mod_lt _ (by omega)))
    have p1 := small_mul ha.1 hb.2
    have p2 := small_mul ha.2 hb.1
    have e2 : crs (pat l k) (nxt l k) = (pat l k).1 * (pat l ((k + 1) % l.length)).2 - (pat l k).2 * (pat l ((k + 1) % l.length)).1 := rfl
    omega
/-- a fence's area -/
def fen (l : List (Int × Int)) : Int := if rightF l = true then (area2 l).tdiv 2 else 0

end Go.Proofs.YthchkhgimnchcaaGreat
/- The walks of the document's answers for layer 6: is a cell within? -/
namespace Go.Proofs.YthchkhgimnchcaaGreat
open Go.RowKit
attribute [local go_sem high] field_x field_y

/-- the edges so far -/
def ccell (l : List (Int × Int)) (p : Int × Int) (k : Nat) : Int := sumN (fun i => edg p (pat l i) (nxt l i)) k
theorem edg_bd (p a b : Int × Int) : -1 ≤ edg p a b ∧ edg p a b ≤ 1 := by
  unfold edg
  split
  · split <;> omega
  · omega
theorem ccell_bd (l : List (Int × Int)) (p : Int × Int) (k : Nat) : -(k : Int) ≤ ccell l p k ∧ ccell l p k ≤ (k : Int) := by
  induction k with
  | zero => simp [ccell, sumN]
  | succ k ih =>
    have e : ccell l p (k + 1) = ccell l p k + edg p (pat l k) (nxt l k) := rfl
    have := edg_bd p (pat l k) (nxt l k)
    omega
/-- a fence's cell -/
def fcell (l : List (Int × Int)) (p : Int × Int) : Int := if rightF l = true then cell l p else 0

end Go.Proofs.YthchkhgimnchcaaGreat
/- The walks of the document's answers for layer 6: a fence moved, a ring of four, the box. -/
namespace Go.Proofs.YthchkhgimnchcaaGreat
open Go.RowKit
attribute [local go_sem high] field_x field_y

/-- a corner moved -/
def rmv (n x y : Int) (p : Int × Int) : Int × Int := mov (qr n) (fx x, fx y) (fx p.1, fx p.2)
theorem take_map_next (f : Int × Int → Int × Int) (l : List (Int × Int)) (k : Nat) (h : k < l.length) : (l.take (k + 1)).map f = (l.take k).map f ++ [f (pat l k)] := by
  rw [List.take_add_one, pat_get l k h]
  simp

theorem lit4 (w : World) (e : TypeId) (a b c d f g h i : Int) : PairsAt (w.alloc (.cells #[.int .i64 a, .int .i64 b, .int .i64 c, .int .i64 d, .int .i64 f, .int .i64 g, .int .i64 h, .int .i64 i] e)) (.slice (some ⟨w.heap.size, 0, none⟩) 4 4) [(a, b), (c, d), (f, g), (h, i)] := by
  have o : OwnP (w.alloc (.cells #[.int .i64 a, .int .i64 b, .int .i64 c, .int .i64 d, .int .i64 f, .int .i64 g, .int .i64 h, .int .i64 i] e)) w.heap.size e (.slice (some ⟨w.heap.size, 0, none⟩) 4 4) [(a, b), (c, d), (f, g), (h, i)] :=
    ⟨rfl, .inr ⟨w.heap.size, 4, #[.int .i64 a, .int .i64 b, .int .i64 c, .int .i64 d, .int .i64 f, .int .i64 g, .int .i64 h, .int .i64 i], rfl, Nat.le_refl _, heap_alloc_new w _, Nat.le_refl _, by decide, rfl, rfl⟩⟩
  exact o.pairs

end Go.Proofs.YthchkhgimnchcaaGreat
/- Plans: plain mathematics. -/
namespace Go.Proofs.YthchkhgimnchcaaGreat

def pa (l : List Ais) (i : Nat) : Ais := l.getD i default
theorem pa_get (l : List Ais) (i : Nat) (h : i < l.length) : pa l i = l[i] := by
  unfold pa
  rw [List.getD_eq_getElem?_getD, List.getElem?_eq_getElem h]
  rfl
theorem pa_map (f : Ais → Ais) (l : List Ais) (i : Nat) (h : i < l.length) : pa (l.map f) i = f (pa l i) := by
  rw [pa_get _ _ (by simpa using h), pa_get _ _ h, List.getElem_map]

/-! ### What a plan is -/
def valA (a : Ais) : Prop := a.lx ≤ a.hx ∧ a.ly ≤ a.hy
def smallA (a : Ais) (m : Int) : Bool := smallP (a.lx, a.ly) m && smallP (a.hx, a.hy) m
structure OkA (l : List Ais) (i : Nat) : Prop where
  id1 : 1 ≤ (pa l i).id
  id2 : (pa l i).id ≤ 999
  up : 0 < i → (pa l (i - 1)).id < (pa l i).id
  sm : smallA (pa l i) 1000 = true
  val : valA (pa l i)
  apart : ∀ k, k < i → meetB (pa l k) (pa l i) = false
def RightP (l : List Ais) : Prop := l.length ≤ 32 ∧ ∀ i, i < l.length → OkA l i
open Classical in
noncomputable def rightP (l : List Ais) : Bool := decide (RightP l)
theorem rightP_iff (l : List Ais) : rightP l = true ↔ RightP l := by unfold rightP; simp
theorem rightP_no {l : List Ais} (h : ¬ RightP l) : rightP l = false := by unfold rightP; simp [h]
def smallL (l : List Ais) (m : Int) : Prop := ∀ i, i < l.length → smallA (pa l i) m = true

/-! ### Moved -/
def mvQ (q : Nat) (t : Int × Int) (a : Ais) : Ais :=
  ⟨a.id, min (mov q t (a.lx, a.ly)).1 (mov q t (a.hx, a.hy)).1, min (mov q t (a.lx, a.ly)).2 (mov q t (a.hx, a.hy)).2,
    max (mov q t (a.lx, a.ly)).1 (mov q t (a.hx, a.hy)).1, max (mov q t (a.lx, a.ly)).2 (mov q t (a.hx, a.hy)).2⟩
theorem mov_0 (t p : Int × Int) : mov 0 t p = (p.1 + t.1, p.2 + t.2) := rfl
theorem mov_1 (t p : Int × Int) : mov 1 t p = (-p.2 + t.1, p.1 + t.2) := rfl
theorem mov_2 (t p : Int × Int) : mov 2 t p = (-p.1 + t.1, -p.2 + t.2) := rfl
theorem mov_3 (t p : Int × Int) : mov 3 t p = (- -p.2 + t.1, -p.1 + t.2) := rfl
theorem four {q : Nat} (h : q < 4) : q = 0 ∨ q = 1 ∨ q = 2 ∨ q = 3 := by omega
theorem has_mv {q : Nat} (hq : q < 4) (t p : Int × Int) {a : Ais} (h : valA a) : hasB (mvQ q t a) (mov q t p).1 (mov q t p).2 = hasB a p.1 p.2 := by
  obtain ⟨i, a1, a2, b1, b2⟩ := a
  obtain ⟨t1, t2⟩ := t
  obtain ⟨x, y⟩ := p
  unfold valA at h
  unfold hasB mvQ
  rw [decide_eq_decide]
  simp only at h
  rcases four hq with rfl | rfl | rfl | rfl
  · simp only [mov_0]; omega
  · simp only [mov_1]; omega
  · simp only [mov_2]; omega
  · simp only [mov_3]; omega
theorem val_mv (q : Nat) (t : Int × Int) (a : Ais) : valA (mvQ q t a) := by
  unfold valA mvQ
  simp only
  omega
theorem meet_val {a b : Ais} (ha : valA a) (hb : valA b) : meetB a b = decide (a.lx ≤ b.hx ∧ b.lx ≤ a.hx ∧ a.ly ≤ b.hy ∧ b.ly ≤ a.hy) := by
  unfold valA at ha hb
  unfold meetB hasB
  rw [← Bool.decide_and, decide_eq_decide]
  omega
theorem meet_mv {q : Nat} (hq : q < 4) (t : Int × Int) {a b : Ais} (ha : valA a) (hb : valA b) : meetB (mvQ q t a) (mvQ q t b) = meetB a b := by
  rw [meet_val (val_mv q t a) (val_mv q t b), meet_val ha hb]
  obtain ⟨i, a1, a2, b1, b2⟩ := a
  obtain ⟨j, c1, c2, d1, d2⟩ := b
  obtain ⟨t1, t2⟩ := t
  unfold valA at ha hb
  unfold mvQ
  rw [decide_eq_decide]
  simp only at ha hb
  rcases four hq with rfl | rfl | rfl | rfl
  · simp only [mov_0]; omega
  · simp only [mov_1]; omega
  · simp only [mov_2]; omega
  · simp only [mov_3]; omega
theorem small_iff (a : Ais) (m : Int) : smallA a m = true ↔ (-m ≤ a.lx ∧ a.lx ≤ m ∧ -m ≤ a.ly ∧ a.ly ≤ m) ∧ -m ≤ a.hx ∧ a.hx ≤ m ∧ -m ≤ a.hy ∧ a.hy ≤ m := by
  unfold smallA smallP
  simp
theorem small_mv {q : Nat} (hq : q < 4) {t : Int × Int} (ht : (-200 ≤ t.1 ∧ t.1 ≤ 200) ∧ -200 ≤ t.2 ∧ t.2 ≤ 200) {a : Ais} (h : smallA a 200 = true) : smallA (mvQ q t a) 1000 = true := by
  rw [small_iff] at h ⊢
  obtain ⟨i, a1, a2, b1, b2⟩ := a
  obtain ⟨t1, t2⟩ := t
  unfold mvQ
  simp only at h ht
  rcases four hq with rfl | rfl | rfl | rfl
  · simp only [mov_0]; omega
  · simp only [mov_1]; omega
  · simp only [mov_2]; omega
  · simp only [mov_3]; omega
theorem right_mvQ {q : Nat} (hq : q < 4) {t : Int × Int} (ht : (-200 ≤ t.1 ∧ t.1 ≤ 200) ∧ -200 ≤ t.2 ∧ t.2 ≤ 200) {l : List Ais} (h : RightP l) (hs : smallL l 200) : RightP (l.map (mvQ q t)) := by
  refine ⟨by simpa using h.1, fun i hi => ?_⟩
  rw [List.length_map] at hi
  have ho := h.2 i hi
  have e : pa (l.map (mvQ q t)) i = mvQ q t (pa l i) := pa_map _ _ _ hi
  refine ⟨by rw [e]; exact ho.id1, by rw [e]; exact ho.id2, fun h0 => ?_, by rw [e]; exact small_mv hq ht (hs i hi), by rw [e]; exact val_mv _ _ _, fun k hk => ?_⟩
  · rw [e, pa_map _ _ _ (by omega)]
    exact ho.up h0
  · rw [e, pa_map _ _ _ (by omega), meet_mv hq t (h.2 k (by omega)).val ho.val]
    exact ho.apart k hk
theorem at_map {q : Nat} (hq : q < 4) (t p : Int × Int) {l : List Ais} (h : ∀ a ∈ l, valA a) : atL (l.map (mvQ q t)) (mov q t p).1 (mov q t p).2 = atL l p.1 p.2 := by
  unfold atL
  rw [List.find?_map]
  have e : l.find? ((fun a => hasB a (mov q t p).1 (mov q t p).2) ∘ mvQ q t) = l.find? (fun a => hasB a p.1 p.2) := by
    induction l with
    | nil => rfl
    | cons a l ih =>
      rw [List.find?_cons, List.find?_cons]
      have e1 : ((fun a => hasB a (mov q t p).1 (mov q t p).2) ∘ mvQ q t) a = hasB a p.1 p.2 := has_mv hq t p (h a (by simp))
      rw [e1, ih (fun b hb => h b (by simp [hb]))]
  rw [e]
  cases l.find? (fun a => hasB a p.1 p.2) with
  | none => rfl
  | some a => rfl

/-! ### Ways -/
theorem tw_neg (n t : Int) : tw (-n) (-t) = -tw n t := by unfold tw; split <;> split <;> (try split) <;> (try split) <;> omega
theorem tw_add (n t c : Int) : tw (n + c) (t + c) = tw n t + c := by unfold tw; split <;> split <;> (try split) <;> (try split) <;> omega
theorem tw_self (n : Int) : tw n n = n := by unfold tw; rw [if_neg (by omega), if_neg (by omega)]
/-- the other way, if a turn is odd -/
def oth (q : Nat) (h : Int) : Int := if q % 2 = 0 then h else 1 - h
theorem rst_mv {q : Nat} (hq : q < 4) (t a b : Int × Int) {how : Int} (hh : how = 0 ∨ how = 1) : rst (mov q t b) (oth q how) (mov q t a) = mov q t (rst b how a) := by
  obtain ⟨t1, t2⟩ := t
  obtain ⟨a1, a2⟩ := a
  obtain ⟨b1, b2⟩ := b
  rcases four hq with rfl | rfl | rfl | rfl
  · rw [show oth 0 how = how from rfl]
    unfold rst
    simp only [mov_0, tw_add]
    rcases hh with rfl | rfl
    · by_cases h1 : a2 = b2 <;> by_cases h2 : a1 = b1 <;> simp [h1, h2, tw_self] <;> omega
    · by_cases h1 : a2 = b2 <;> by_cases h2 : a1 = b1 <;> simp [h1, h2, tw_self] <;> omega
  · rw [show oth 1 how = 1 - how from rfl]
    unfold rst
    simp only [mov_1, tw_add, tw_neg]
    rcases hh with rfl | rfl
    · by_cases h1 : a2 = b2 <;> by_cases h2 : a1 = b1 <;> simp [h1, h2, tw_self] <;> omega
    · by_cases h1 : a2 = b2 <;> by_cases h2 : a1 = b1 <;> simp [h1, h2, tw_self] <;> omega
  · rw [show oth 2 how = how from rfl]
    unfold rst
    simp only [mov_2, tw_add, tw_neg]
    rcases hh with rfl | rfl
    · by_cases h1 : a2 = b2 <;> by_cases h2 : a1 = b1 <;> simp [h1, h2, tw_self] <;> omega
    · by_cases h1 : a2 = b2 <;> by_cases h2 : a1 = b1 <;> simp [h1, h2, tw_self] <;> omega
  · rw [show oth 3 how = 1 - how from rfl]
    unfold rst
    simp only [mov_3, tw_add, tw_neg]
    rcases hh with rfl | rfl
    · by_cases h1 : a2 = b2 <;> by_cases h2 : a1 = b1 <;> simp [h1, h2, tw_self] <;> omega
    · by_cases h1 : a2 = b2 <;> by_cases h2 : a1 = b1 <;> simp [h1, h2, tw_self] <;> omega
theorem gap_mv {q : Nat} (hq : q < 4) (t a b : Int × Int) : gap (mov q t a) (mov q t b) = gap a b := by
  unfold gap
  rcases four hq with rfl | rfl | rfl | rfl
  · simp only [mov_0]; omega
  · simp only [mov_1]; omega
  · simp only [mov_2]; omega
  · simp only [mov_3]; omega
theorem rway_mv {q : Nat} (hq : q < 4) (t a b : Int × Int) {how : Int} (hh : how = 0 ∨ how = 1) : rway (mov q t a) (mov q t b) (oth q how) = (rway a b how).map (mov q t) := by
  unfold rway
  rw [gap_mv hq, List.map_map]
  refine List.map_congr_left fun k hk => ?_
  clear hk
  show rit (mov q t b) (oth q how) (mov q t a) k = mov q t (rit b how a k)
  induction k with
  | zero => rfl
  | succ k ih =>
    show rst (mov q t b) (oth q how) (rit (mov q t b) (oth q how) (mov q t a) k) = mov q t (rst b how (rit b how a k))
    rw [ih, rst_mv hq t _ _ hh]
end Go.Proofs.YthchkhgimnchcaaGreat
/- Plans: plain mathematics of ways and what they go through. -/
namespace Go.Proofs.YthchkhgimnchcaaGreat

theorem rit_shift (b : Int × Int) (how : Int) (a : Int × Int) (k : Nat) : rit b how a (k + 1) = rit b how (rst b how a) k := by
  induction k with
  | zero => rfl
  | succ k ih =>
    show rst b how (rit b how a (k + 1)) = rst b how (rit b how (rst b how a) k)
    rw [ih]
theorem rway_self (a : Int × Int) (how : Int) : rway a a how = [a] := by
  have : gap a a = 0 := by unfold gap; omega
  unfold rway
  rw [this]
  rfl
theorem rway_cons {a b : Int × Int} (how : Int) (h : a ≠ b) : rway a b how = a :: rway (rst b how a) b how := by
  unfold rway
  rw [rst_gap how h, ← rst_gap how h, List.range_succ_eq_map, List.map_cons, List.map_map]
  congr 1
  refine List.map_congr_left fun k _ => ?_
  exact rit_shift b how a k
theorem rway_length (a b : Int × Int) (how : Int) : (rway a b how).length = gap a b + 1 := by unfold rway; simp
def btw (u v x : Int) : Prop := min u v ≤ x ∧ x ≤ max u v
def onX (a b z : Int × Int) : Prop := (z.2 = a.2 ∧ btw a.1 b.1 z.1) ∨ (z.1 = b.1 ∧ btw a.2 b.2 z.2)
def onY (a b z : Int × Int) : Prop := (z.1 = a.1 ∧ btw a.2 b.2 z.2) ∨ (z.2 = b.2 ∧ btw a.1 b.1 z.1)
theorem onX_step {a b : Int × Int} {how : Int} (hh : how ≠ 1) (h : a ≠ b) (z : Int × Int) : onX a b z ↔ z = a ∨ onX (rst b how a) b z := by
  obtain ⟨a1, a2⟩ := a
  obtain ⟨b1, b2⟩ := b
  obtain ⟨x, y⟩ := z
  have hne : ¬ (a1 = b1 ∧ a2 = b2) := fun ⟨e1, e2⟩ => h (by rw [e1, e2])
  rw [Prod.mk.injEq]
  unfold onX rst btw tw
  simp only
  clear h
  by_cases h1 : a1 = b1
  · subst h1
    rw [if_neg (by omega)]
    simp only
    split
    · omega
    · split <;> omega
  · rw [if_pos (by omega)]
    simp only
    split
    · omega
    · split <;> omega
theorem onY_step {a b : Int × Int} (h : a ≠ b) (z : Int × Int) : onY a b z ↔ z = a ∨ onY (rst b 1 a) b z := by
  obtain ⟨a1, a2⟩ := a
  obtain ⟨b1, b2⟩ := b
  obtain ⟨x, y⟩ := z
  have hne : ¬ (a1 = b1 ∧ a2 = b2) := fun ⟨e1, e2⟩ => h (by rw [e1, e2])
  rw [Prod.mk.injEq]
  unfold onY rst btw tw
  simp only
  clear h
  by_cases h1 : a2 = b2
  · subst h1
    rw [if_pos (by omega)]
    simp only
    split
    · omega
    · split <;> omega
  · rw [if_neg (by omega)]
    simp only
    split
    · omega
    · split <;> omega
theorem mem_rway {P : Int × Int → Int × Int → Prop} {b : Int × Int} {how : Int} (hs : ∀ z, P b z ↔ z = b) (hstep : ∀ a, a ≠ b → ∀ z, P a z ↔ z = a ∨ P (rst b how a) z) (n : Nat) : ∀ a, gap a b = n → ∀ z, z ∈ rway a b how ↔ P a z := by
  induction n with
  | zero =>
    intro a hg z
    have e := gap_zero hg
    subst e
    rw [rway_self, hs z]
    simp
  | succ n ih =>
    intro a hg z
    have hne : a ≠ b := fun e => by
      subst e
      have : gap a a = 0 := by unfold gap; omega
      omega
    have hg2 := rst_gap how hne
    rw [rway_cons how hne, hstep a hne z, List.mem_cons, ih _ (by omega) z]
theorem mem_x {how : Int} (hh : how ≠ 1) (a b z : Int × Int) : z ∈ rway a b how ↔ onX a b z :=
  mem_rway (P := fun a z => onX a b z) (fun z => by
    obtain ⟨b1, b2⟩ := b
    obtain ⟨x, y⟩ := z
    rw [Prod.mk.injEq]
    unfold onX btw
    simp only
    omega) (fun a h z => onX_step hh h z) _ a rfl z
theorem mem_y (a b z : Int × Int) : z ∈ rway a b 1 ↔ onY a b z :=
  mem_rway (P := fun a z => onY a b z) (fun z => by
    obtain ⟨b1, b2⟩ := b
    obtain ⟨x, y⟩ := z
    rw [Prod.mk.injEq]
    unfold onY btw
    simp only
    omega) (fun a h z => onY_step h z) _ a rfl z
theorem back_mem (a b z : Int × Int) : z ∈ rway a b 0 ↔ z ∈ rway b a 1 := by
  rw [mem_x (by decide), mem_y]
  unfold onX onY btw
  omega

/-! ### What a way goes through -/
def hitB (w : List (Int × Int)) (a : Ais) : Bool := w.any fun z => hasB a z.1 z.2
theorem hit_mem {w w' : List (Int × Int)} (h : ∀ z, z ∈ w ↔ z ∈ w') (a : Ais) : hitB w a = hitB w' a := by
  rw [Bool.eq_iff_iff]
  unfold hitB
  simp only [List.any_eq_true]
  exact ⟨fun ⟨z, h1, h2⟩ => ⟨z, (h z).1 h1, h2⟩, fun ⟨z, h1, h2⟩ => ⟨z, (h z).2 h1, h2⟩⟩
theorem hit_mv {q : Nat} (hq : q < 4) (t : Int × Int) (w : List (Int × Int)) {a : Ais} (h : valA a) : hitB (w.map (mov q t)) (mvQ q t a) = hitB w a := by
  unfold hitB
  rw [List.any_map]
  congr 1
  funext z
  exact has_mv hq t z h
/-- a number in a list that rises -/
def putR (n : Int) : List Int → Bool → List Int
  | [], d => if d = true then [] else [n]
  | x :: l, d => (if d = false ∧ n ≤ x then [n] else []) ++ (if x ≠ n then [x] else []) ++ putR n l (d || decide (n ≤ x))
theorem putR_mem (n : Int) (l : List Int) : ∀ d m, m ∈ putR n l d ↔ (d = false ∧ m = n) ∨ (m ∈ l ∧ m ≠ n) := by
  induction l with
  | nil =>
    intro d m
    cases d <;> simp [putR]
  | cons x l ih =>
    intro d m
    unfold putR
    rw [List.mem_append, List.mem_append, ih, List.mem_cons]
    by_cases h1 : n ≤ x <;> by_cases h2 : x = n <;> cases d <;> simp [h1, h2] <;> grind
theorem put_mem (n : Int) (l : List Int) (m : Int) : m ∈ putR n l false ↔ m = n ∨ m ∈ l := by
  rw [putR_mem]
  by_cases h : m = n <;> simp [h]
def crs7 (hit : Ais → Bool) (l : List Ais) : List Int := l.foldl (fun out a => if hit a = true then putR a.id out false else out) []
theorem crs7_mem (hit : Ais → Bool) (l : List Ais) (m : Int) : m ∈ crs7 hit l ↔ ∃ a ∈ l, hit a = true ∧ a.id = m := by
  unfold crs7
  have key : ∀ (l : List Ais) (out : List Int), m ∈ l.foldl (fun out a => if hit a = true then putR a.id out false else out) out ↔ m ∈ out ∨ ∃ a ∈ l, hit a = true ∧ a.id = m := by
    intro l
    induction l with
    | nil => intro out; simp
    | cons a l ih =>
      intro out
      rw [List.foldl_cons, ih]
      by_cases h : hit a = true
      · rw [if_pos h, put_mem]
        constructor
        · rintro ((rfl | h1) | ⟨b, h1, h2⟩)
          · exact .inr ⟨a, by simp, h, rfl⟩
          · exact .inl h1
          · exact .inr ⟨b, by simp [h1], h2⟩
        · rintro (h1 | ⟨b, h1, h2, h3⟩)
          · exact .inl (.inr h1)
          · rcases List.mem_cons.1 h1 with rfl | h1
            · exact .inl (.inl h3.symm)
            · exact .inr ⟨b, h1, h2, h3⟩
      · rw [if_neg h]
        constructor
        · rintro (h1 | ⟨b, h1, h2⟩)
          · exact .inl h1
          · exact .inr ⟨b, by simp [h1], h2⟩
        · rintro (h1 | ⟨b, h1, h2, h3⟩)
          · exact .inl h1
          · rcases List.mem_cons.1 h1 with rfl | h1
            · exact absurd h2 h
            · exact .inr ⟨b, h1, h2, h3⟩
  rw [key]
  simp
theorem crs7_congr {hit hit' : Ais → Bool} {l : List Ais} (f : Ais → Ais) (h : ∀ a ∈ l, hit' (f a) = hit a ∧ (f a).id = a.id) : crs7 hit' (l.map f) = crs7 hit l := by
  unfold crs7
  have key : ∀ (l : List Ais) (out : List Int), (∀ a ∈ l, hit' (f a) = hit a ∧ (f a).id = a.id) → (l.map f).foldl (fun out a => if hit' a = true then putR a.id out false else out) out = l.foldl (fun out a => if hit a = true then putR a.id out false else out) out := by
    intro l
    induction l with
    | nil => intro out _; rfl
    | cons a l ih =>
      intro out h
      rw [List.map_cons, List.foldl_cons, List.foldl_cons, (h a (by simp)).1, (h a (by simp)).2]
      exact ih _ fun b hb => h b (by simp [hb])
  exact key l [] h
theorem crs7_next (hit : Ais → Bool) (l : List Ais) (k : Nat) (h : k < l.length) : crs7 hit (l.take (k + 1)) = if hit (pa l k) = true then putR (pa l k).id (crs7 hit (l.take k)) false else crs7 hit (l.take k) := by
  unfold crs7
  rw [List.take_succ_eq_append_getElem h, List.foldl_append, pa_get l k h]
  rfl
theorem id_lt {l : List Ais} (h : RightP l) (k : Nat) : ∀ i, i < k → k < l.length → (pa l i).id < (pa l k).id := by
  induction k with
  | zero => intro i hi; omega
  | succ k ih =>
    intro i hi hk
    have h1 := (h.2 (k + 1) hk).up (by omega)
    rw [Nat.add_sub_cancel] at h1
    by_cases e : i = k
    · subst e; exact h1
    · have := ih i (by omega) (by omega)
      omega
theorem id_inj {l : List Ais} (h : RightP l) {i k : Nat} (hi : i < l.length) (hk : k < l.length) (e : (pa l i).id = (pa l k).id) : i = k := by
  rcases Nat.lt_trichotomy i k with h1 | h1 | h1
  · have := id_lt h k i h1 hk; omega
  · exact h1
  · have := id_lt h i k h1 hi; omega
theorem meet_of {a b : Ais} (ha : valA a) (hb : valA b) {x y : Int} (h1 : hasB a x y = true) (h2 : hasB b x y = true) : meetB a b = true := by
  rw [meet_val ha hb]
  unfold hasB at h1 h2
  simp only [decide_eq_true_eq] at h1 h2 ⊢
  omega
theorem at_right {l : List Ais} (h : RightP l) {i : Nat} (hi : i < l.length) (x y : Int) : ((atL l x y).2 && decide ((atL l x y).1 = (pa l i).id)) = hasB (pa l i) x y := by
  by_cases hx : ∃ k, k < l.length ∧ hasB (pa l k) x y = true
  · obtain ⟨k, hk, hkx⟩ := hx
    have uniq : ∀ j, j < l.length → hasB (pa l j) x y = true → j = k := by
      intro j hj hjx
      rcases Nat.lt_trichotomy j k with h1 | h1 | h1
      · have := (h.2 k hk).apart j h1
        rw [meet_of (h.2 j hj).val (h.2 k hk).val hjx hkx] at this
        cases this
      · exact h1
      · have := (h.2 j hj).apart k h1
        rw [meet_of (h.2 k hk).val (h.2 j hj).val hkx hjx] at this
        cases this
    have hat : atL l x y = (l[k].id, true) := atL_hit k hk (by rw [← pa_get l k hk]; exact hkx) fun j hj hjk => by
      cases e : hasB l[j] x y with
      | false => rfl
      | true => rw [← pa_get l j hj] at e; have := uniq j hj e; omega
    rw [hat, ← pa_get l k hk]
    simp only [Bool.true_and]
    by_cases e : k = i
    · subst e
      rw [hkx]
      simp
    · rw [decide_eq_false fun e1 => e (id_inj h hk hi e1)]
      cases e2 : hasB (pa l i) x y with
      | false => rfl
      | true => exact absurd (uniq i hi e2).symm e
  · have hn : ∀ j, j < l.length → hasB (pa l j) x y = false := fun j hj => by
      cases e : hasB (pa l j) x y with
      | false => rfl
      | true => exact absurd ⟨j, hj, e⟩ hx
    rw [atL_none fun j hj => by rw [← pa_get l j hj]; exact hn j hj, hn i hi]
    rfl
theorem told_right {l : List Ais} (h : RightP l) {i : Nat} (hi : i < l.length) (hit : Ais → Bool) : (crs7 hit l).any (fun n => decide (n = (pa l i).id)) = hit (pa l i) := by
  rw [Bool.eq_iff_iff, List.any_eq_true]
  constructor
  · rintro ⟨n, hn, e⟩
    simp only [decide_eq_true_eq] at e
    subst e
    obtain ⟨a, ha, h1, h2⟩ := (crs7_mem hit l _).1 hn
    obtain ⟨k, hk, rfl⟩ := List.getElem_of_mem ha
    rw [← pa_get l k hk] at h1 h2
    rw [← id_inj h hk hi h2]
    exact h1
  · intro h1
    exact ⟨(pa l i).id, (crs7_mem hit l _).2 ⟨pa l i, by rw [pa_get l i hi]; exact List.getElem_mem hi, h1, rfl⟩, by simp⟩
theorem any_is {l : List Ais} (h : RightP l) {i : Nat} (hi : i < l.length) (w : List (Int × Int)) : (w.any fun z => (atL l z.1 z.2).2 && decide ((atL l z.1 z.2).1 = (pa l i).id)) = hitB w (pa l i) := by
  unfold hitB
  congr 1
  funext z
  exact at_right h hi z.1 z.2
theorem val_all {l : List Ais} (h : RightP l) : ∀ a ∈ l, valA a := fun a ha => by
  obtain ⟨k, hk, rfl⟩ := List.getElem_of_mem ha
  rw [← pa_get l k hk]
  exact (h.2 k hk).val
/-- ways between points that are moved go through the same aisles -/
theorem cross_mv {q : Nat} (hq : q < 4) (t a b : Int × Int) {how : Int} (hh : how = 0 ∨ how = 1) {l : List Ais} (h : RightP l) : crs7 (hitB (rway (mov q t a) (mov q t b) (oth q how))) (l.map (mvQ q t)) = crs7 (hitB (rway a b how)) l := by
  rw [rway_mv hq t a b hh]
  exact crs7_congr (mvQ q t) fun c hc => ⟨hit_mv hq t _ (val_all h c hc), rfl⟩
theorem cross_back (a b : Int × Int) (l : List Ais) : crs7 (hitB (rway a b 0)) l = crs7 (hitB (rway b a 1)) l := by
  congr 1
  funext c
  exact hit_mem (back_mem a b) c
theorem rit_end (a b : Int × Int) (how : Int) : rit b how a (gap a b) = b := gap_zero (by rw [rit_gap a b how _ (Nat.le_refl _)]; omega)
theorem rway_last (a b : Int × Int) (how : Int) : pat (rway a b how) ((rway a b how).length - 1) = b := by
  rw [rway_length]
  unfold pat rway
  simp [rit_end]
theorem rway_first (a b : Int × Int) (how : Int) : pat (rway a b how) 0 = a := by
  unfold pat rway
  simp [rit]
end Go.Proofs.YthchkhgimnchcaaGreat
/- The walks of the document's answers for layer 7: small aisles; are lists the same. -/
namespace Go.Proofs.YthchkhgimnchcaaGreat
open Go.RowKit

theorem AisAt.at {w : World} {v : Value} {l : List Ais} (h : AisAt w v l) (k : Nat) (hk : k < l.length) :
    ∃ g o c i a1 a2 b1 b2, pa l k = ⟨i, a1, a2, b1, b2⟩ ∧ v = .slice (some ⟨g, o, none⟩) l.length c ∧ l.length ≤ c ∧ g < w.heap.size ∧
      w.cell? ⟨g, o + k * 5, none⟩ = some (.int .i64 i) ∧ w.cell? ⟨g, o + k * 5 + 1, none⟩ = some (.int .i64 a1) ∧ w.cell? ⟨g, o + k * 5 + 2, none⟩ = some (.int .i64 a2) ∧ w.cell? ⟨g, o + k * 5 + 3, none⟩ = some (.int .i64 b1) ∧ w.cell? ⟨g, o + k * 5 + 4, none⟩ = some (.int .i64 b2) := by
  rw [pa_get l k hk]
  exact h.spot k hk
def smallLB (l : List Ais) (m : Int) (k : Nat) : Bool := (List.range k).all fun i => smallA (pa l i) m
theorem smallLB_iff (l : List Ais) (m : Int) (k : Nat) : smallLB l m k = true ↔ ∀ i, i < k → smallA (pa l i) m = true := by
  unfold smallLB
  simp [List.all_eq_true]
theorem smallLB_no {l : List Ais} {m : Int} {i k : Nat} (hi : i < k) (h : smallA (pa l i) m = false) : smallLB l m k = false := by
  cases e : smallLB l m k with
  | false => rfl
  | true => rw [(smallLB_iff l m k).1 e i hi] at h; cases h
theorem smallLB_succ (l : List Ais) (m : Int) (k : Nat) : smallLB l m (k + 1) = (smallLB l m k && smallA (pa l k) m) := by
  unfold smallLB
  rw [List.range_succ, List.all_append]
  simp

end Go.Proofs.YthchkhgimnchcaaGreat
/- Lists of numbers in memory. -/
namespace Go.Proofs.YthchkhgimnchcaaGreat
open Go.RowKit

/-- A slice that reads as these numbers. -/
def IntsAt (w : World) (v : Value) (l : List Int) : Prop :=
  ∃ a cap, v = .slice a l.length cap ∧ l.length ≤ cap ∧ (0 < l.length → ∃ g o, a = some ⟨g, o, none⟩ ∧ g < w.heap.size ∧ ∀ j x, l[j]? = some x → w.cell? ⟨g, o + j, none⟩ = some (.int .i64 x))

theorem IntsAt.nil (w : World) : IntsAt w (.slice none 0 0) [] := ⟨none, 0, rfl, Nat.le_refl _, fun h => absurd h (by simp)⟩

theorem IntsAt.below {w w' : World} {v : Value} {l : List Int} (h : IntsAt w v l) (hb : Below w.heap.size w w') : IntsAt w' v l := by
  obtain ⟨a, cap, e, hc, h⟩ := h
  refine ⟨a, cap, e, hc, fun h0 => ?_⟩
  obtain ⟨g, o, e1, hg, hx⟩ := h h0
  exact ⟨g, o, e1, Nat.lt_of_lt_of_le hg hb.size, fun j x hj => (hb.cell (p := ⟨g, o + j, none⟩) hg).trans (hx j x hj)⟩

theorem IntsAt.lit (w : World) (l : List Int) (t : TypeId) : IntsAt (w.alloc (.cells (l.map (Value.int .i64)).toArray t)) (.slice (some ⟨w.heap.size, 0, none⟩) l.length l.length) l := by
  refine ⟨_, _, rfl, Nat.le_refl _, fun _ => ⟨w.heap.size, 0, rfl, by simp, fun j x hj => ?_⟩⟩
  rw [Nat.zero_add, World.cell?_alloc_at _ _ _ _ rfl]
  simp [hj]

theorem cells_int : Tryz.prog.cellsOf 3 = 1 := by kernel_rfl

set_option maxRecDepth 100000 in
theorem open_ints {H : Type} {enc : TypeId × Value → H} {w : World} {base : Nat} {v : Value} {d : DataW H} {p : List MemPlace} (hok : Value.okWide Tryz.prog w .any base 32 v) (h : DataW.Trod enc Tryz.prog w 0 (fun _ => true) true 32 v d p) :
    ∃ l, IntsAt w v l ∧ l.length ≤ 9223372036854775807 ∧ ∀ x ∈ l, -9223372036854775808 ≤ x ∧ x ≤ 9223372036854775807 := by
  obtain ⟨a, len, cap, rfl⟩ := Go.WideShapes.okWide_slice Tryz.underlying32 hok
  obtain ⟨fuel, hf⟩ := h
  rcases Go.ChangeShapes.open_ints Tryz.underlying32 Tryz.underlying3 cells_int hf with ⟨hcs, _⟩ | ⟨x, l, c, zs, hcs, _, hl, hm, hz, _, hcell, hws⟩
  · simp [Value.cells] at hcs
    obtain ⟨rfl, rfl, rfl⟩ := hcs
    exact ⟨[], IntsAt.nil _, by simp, by simp⟩
  · simp [Value.cells] at hcs
    obtain ⟨rfl, rfl, rfl⟩ := hcs
    have hz' : zs.length = cap := by simpa using hz
    have hlen : (zs.take len).length = len := by rw [List.length_take]; omega
    refine ⟨zs.take len, ⟨some x, cap, by rw [hlen], by omega, fun h0 => ?_⟩, ?_, fun y hy => ?_⟩
    · rw [hlen] at h0
      have h1 := hcell 0 (by omega)
      obtain ⟨b, off, spot⟩ := x
      have hs : spot = none := by simpa [Addr.add] using World.cell?_spot h1
      subst hs
      refine ⟨b, off, rfl, ?_, ?_⟩
      · rcases Nat.lt_or_ge b w.heap.size with h | h
        · exact h
        · simp [World.cell?, Addr.add, Array.getElem?_eq_none h] at h1
      · intro j x hj
        have hjl : j < len := by have := (List.getElem?_eq_some_iff.1 hj).1; omega
        have h2 := hcell j (by omega)
        rw [List.getElem?_take_of_lt hjl] at hj
        rw [List.getD_eq_getElem?_getD, hj] at h2
        have ha : (⟨b, off, none⟩ : Addr).add j = ⟨b, off + j, none⟩ := by rcases j with _ | j <;> simp [Addr.add]
        rw [ha] at h2
        exact h2
    · rw [hlen]
      unfold maxLen at hm
      omega
    · have := hws y (List.mem_of_mem_take hy)
      simp [Lit.wf] at this
      exact this
end Go.Proofs.YthchkhgimnchcaaGreat
/- Lists of numbers that a call gathers; are two lists of numbers the same. -/
namespace Go.Proofs.YthchkhgimnchcaaGreat
open Go.RowKit

theorem beq_noI {a b : Int} (h : a ≠ b) : (a == b) = false := by simp [h]
def csI (n : Int) : List Value := [.int .i64 n]
theorem csI_len (n : Int) : (csI n).length = 1 := rfl
theorem info_int : (Tryz.prog.info? 3).map (fun i => (i.zero, i.size, i.bytes)) = some (some (.int .i64 0), 1, 8) := by kernel_rfl
theorem IntsAt.rows {w : World} {v : Value} {l : List Int} (h : IntsAt w v l) : RowsAt w 1 csI v l := by
  obtain ⟨a, cap, e, hc, h⟩ := h
  refine ⟨a, cap, e, hc, fun h0 => ?_⟩
  obtain ⟨g, o, e1, hg, hx⟩ := h h0
  refine ⟨g, o, e1, hg, fun j x hj i u hu => ?_⟩
  have h0 : i = 0 ∧ u = .int .i64 x := by
    cases i with
    | zero => simp [csI] at hu; exact ⟨rfl, hu.symm⟩
    | succ i => simp [csI] at hu
  obtain ⟨rfl, rfl⟩ := h0
  rw [Nat.mul_one, Nat.add_zero]
  exact hx j x hj
theorem RowsAt.ints {w : World} {v : Value} {l : List Int} (h : RowsAt w 1 csI v l) : IntsAt w v l := by
  obtain ⟨a, cap, e, hc, h⟩ := h
  refine ⟨a, cap, e, hc, fun h0 => ?_⟩
  obtain ⟨g, o, e1, hg, hx⟩ := h h0
  refine ⟨g, o, e1, hg, fun j x hj => ?_⟩
  have := hx j x hj 0 _ rfl
  rwa [Nat.mul_one, Nat.add_zero] at this
/-- numbers that the call gathers by itself -/
abbrev OwnI (w : World) (B : Nat) (v : Value) (l : List Int) : Prop := OwnR w B 3 1 csI v l
theorem OwnI.ints {w : World} {B : Nat} {v : Value} {l : List Int} (h : OwnI w B v l) : IntsAt w v l := (OwnR.rows csI_len h).ints
theorem IntsAt.form {w : World} {v : Value} {l : List Int} (h : IntsAt w v l) : ∃ a c, v = .slice a l.length c := by
  obtain ⟨a, c, e, _⟩ := h
  exact ⟨a, c, e⟩
theorem IntsAt.spot {w : World} {v : Value} {l : List Int} (h : IntsAt w v l) (k : Nat) (hk : k < l.length) : ∃ g o c, v = .slice (some ⟨g, o, none⟩) l.length c ∧ l.length ≤ c ∧ g < w.heap.size ∧ w.cell? ⟨g, o + k, none⟩ = some (.int .i64 l[k]) := by
  obtain ⟨a, c, rfl, hc, hx⟩ := h
  obtain ⟨g, o, rfl, hg, hxa⟩ := hx (by omega)
  exact ⟨g, o, c, rfl, hc, hg, hxa k _ (List.getElem?_eq_getElem hk)⟩

set_option maxHeartbeats 2000000 in
set_option maxRecDepth 100000 in
theorem refInts_any (va vb : Value) (l r : List Int) (w : World) (ha : IntsAt w va l) (hb : IntsAt w vb r) (hl : l.length ≤ 1000000) (_hr : r.length ≤ 1000000) :
    Calls Tryz.prog 11 #[va, vb] w fun e w' => e = .returned (.bool (decide (l = r))) ∧ Below w.heap.size w w' := by
  obtain ⟨a, c, rfl⟩ := ha.form
  obtain ⟨b, d, rfl⟩ := hb.form
  have HA := Lib.hid ha
  have HB := Lib.hid hb
  clear ha hb
  by_cases hne : l.length = r.length
  · go_enter Tryz.func11, Tryz.ntmps11
    rw [← hne]
    have HNE := Lib.hid hne
    clear hne
    go_wp2
    go_loopw [5] (fun i wr => ∃ k : Nat, k ≤ l.length ∧ i = .int .i64 k ∧ Below w.heap.size w wr ∧ ∀ i (h : i < l.length) (h' : i < r.length), i < k → l[i] = r[i]) (fun i _ => l.length - (Go.RowKit.intOf i).toNat)
    case atStart => exact ⟨0, Nat.zero_le _, rfl, Below.refl _ _, fun i _ _ hi => absurd hi (by omega)⟩
    case round =>
      obtain ⟨k, hk, rfl, hB, hs⟩ := hrel
      have HS := Lib.hid hs
      clear hs
      by_cases hlt : k < l.length
      · have hlt' : k < r.length := by have := HNE.out; omega
        obtain ⟨g, o, c', ev, hc, hg, p0⟩ := (HA.out.below hB).spot k hlt
        cases ev
        obtain ⟨g', o', c', ev, hc', hg', q0⟩ := (HB.out.below hB).spot k hlt'
        rw [← HNE.out] at ev hc'
        cases ev
        have j0 : (0 : Int) ≤ (k : Int) := by omega
        have j1 : (k : Int) < (l.length : Int) := by omega
        obtain ⟨x, hx⟩ : ∃ x, l[k] = x := ⟨_, rfl⟩
        obtain ⟨y, hy⟩ : ∃ y, r[k] = y := ⟨_, rfl⟩
        rw [hx] at p0
        rw [hy] at q0
        have HX := Lib.hid hx
        have HY := Lib.hid hy
        clear hx hy
        by_cases he : x = y
        · subst he
          go_wp2
          refine wp_region_calm0 (by kernel_rfl) (by kernel_rfl) fun M => ?_
          have e0 := fun n : In M.w => n.cell (M.cell p0)
          have f0 := fun n : In M.w => n.cell (M.cell q0)
          repeat (go_big_quiet_step (fail))
          refine wpQuiet_nil ?_
          intro w1 hb
          replace hB := hB.trans (hb.mono hB.size)
          clear e0 f0 M hb p0 q0
          go_wp2
          go_roundw
          case rel =>
            refine ⟨k + 1, by omega, by go_num, hB, fun i h h' hi => ?_⟩
            by_cases e : i = k
            · subst e
              rw [HX.out, HY.out]
            · exact HS.out i h h' (by omega)
          case measure => simp [Go.RowKit.intOf]; omega
        · have HN := Lib.hid (decide_eq_false (fun e : l = r => he (by rw [← HX.out, ← HY.out]; simp only [e])))
          have m0 : (x != y) = true := by simp [bne, he]
          have m1 := beq_noI he
          clear he
          go_wp2
          refine wp_region_calm0 (by kernel_rfl) (by kernel_rfl) fun M => ?_
          have e0 := fun n : In M.w => n.cell (M.cell p0)
          have f0 := fun n : In M.w => n.cell (M.cell q0)
          repeat (go_big_quiet_step (fail))
          refine wpQuiet_nil ?_
          intro w1 hb
          replace hB := hB.trans (hb.mono hB.size)
          clear e0 f0 M hb p0 q0
          go_wp2
          go_ret
          exact ⟨ret_b HN.out.symm, hB⟩
      · have hk2 : k = l.length := by omega
        have hd : decide (l = r) = true := decide_eq_true (List.ext_getElem HNE.out fun i h1 h2 => HS.out i h1 h2 (by omega))
        have HD := Lib.hid hd
        clear hk hk2 hd
        go_wp2
        go_ret
        exact ⟨ret_b HD.out.symm, hB⟩
  · have e : decide (l = r) = false := decide_eq_false fun h => hne (by rw [h])
    have h2 : ((l.length : Int) == (r.length : Int)) = false := beq_noI (by omega)
    rw [e]
    go_enter Tryz.func11, Tryz.ntmps11
    go_wp2
    go_ret
    exact ⟨rfl, Below.refl _ _⟩
end Go.Proofs.YthchkhgimnchcaaGreat
/- Bytes in memory: what is read, what a call gathers by itself, what comes in; more behind them; as a string. -/
namespace Go.Proofs.YthchkhgimnchcaaGreat
open Go.RowKit Go.ChangeShapes Go.WideShapes Go.Joins Go.Deep

def csB (b : UInt8) : List Value := [.int .u8 (b.toNat : Int)]
theorem csB_len (b : UInt8) : (csB b).length = 1 := rfl
/-- bytes in memory -/
abbrev BytesAt (w : World) (v : Value) (l : List UInt8) : Prop := RowsAt w 1 csB v l
/-- bytes that the call gathers by itself -/
abbrev OwnB (w : World) (B : Nat) (v : Value) (l : List UInt8) : Prop := OwnR w B 5 1 csB v l
theorem info_byte : (Tryz.prog.info? 5).map (fun i => (i.zero, i.size, i.bytes)) = some (some (.int .u8 0), 1, 1) := by kernel_rfl
theorem cells_byte : Tryz.prog.cellsOf 5 = 1 := by kernel_rfl
theorem OwnB.bytes {w : World} {B : Nat} {v : Value} {l : List UInt8} (h : OwnB w B v l) : BytesAt w v l := OwnR.rows csB_len h
theorem OwnB.kept {w w' : World} {B : Nat} {v : Value} {l : List UInt8} (h : OwnB w B v l) (hb : Below w.heap.size w w') : OwnB w' B v l := OwnR.kept h hb
theorem OwnB.base {w : World} {B B' : Nat} {v : Value} {l : List UInt8} (h : OwnB w B v l) (hB : B' ≤ B) : OwnB w B' v l := by
  refine ⟨h.1, ?_⟩
  rcases h.2 with h1 | ⟨g, cap, cur, e, hg, hr⟩
  · exact .inl h1
  · exact .inr ⟨g, cap, cur, e, Nat.le_trans hB hg, hr⟩
theorem BytesAt.at {w : World} {v : Value} {l : List UInt8} (h : BytesAt w v l) (k : Nat) (hk : k < l.length) :
    ∃ g o c, v = .slice (some ⟨g, o, none⟩) l.length c ∧ l.length ≤ c ∧ g < w.heap.size ∧ w.cell? ⟨g, o + k, none⟩ = some (.int .u8 (l[k].toNat : Int)) := by
  obtain ⟨g, o, c, e, hc, hg, hx⟩ := RowsAt.spot h k hk
  have := hx 0 _ rfl
  rw [Nat.mul_one, Nat.add_zero] at this
  exact ⟨g, o, c, e, hc, hg, this⟩

/-! ### More behind what is the call's own -/
theorem flats_inv {α : Type} {cs : α → List Value} {K : Nat} (hK : ∀ x, (cs x).length = K) (l : List α) : ∀ (j : Nat) (u : Value), (flats cs l)[j]? = some u → ∃ q i x, j = q * K + i ∧ l[q]? = some x ∧ (cs x)[i]? = some u := by
  induction l with
  | nil => intro j u h; simp [flats] at h
  | cons y l ih =>
    intro j u h
    have e : flats cs (y :: l) = cs y ++ flats cs l := rfl
    rw [e] at h
    rcases Nat.lt_or_ge j K with hj | hj
    · rw [List.getElem?_append_left (by rw [hK]; exact hj)] at h
      exact ⟨0, j, y, by omega, rfl, h⟩
    · rw [List.getElem?_append_right (by rw [hK]; exact hj), hK] at h
      obtain ⟨q, i, x, e1, e2, e3⟩ := ih _ _ h
      exact ⟨q + 1, i, x, by rw [Nat.add_mul]; omega, by simpa using e2, e3⟩
section
variable {P : Program} {w : World}
theorem run_append_nil' (base : Nat) (t ty e : TypeId) (i : TypeInfo) (size c : Nat) (ht : P.underlying t = some (.slice e)) (hi : P.info? e = some i)
    (v : Value) (n : Nat) (xs : List Value) (hown : w.ownsRow base e size v n xs) :
    (Builtin.append_ #[t, t] ty #[v, .slice none 0 c]).run P w = .ok v w := by
  rcases hown.2 with ⟨rfl, rfl⟩ | ⟨g, cap, cur, rfl, _, _, hnc, _⟩
  · simp [Builtin.append_, run_underlying ht, sizeOf, typeInfo, hi, Builtin.lenOf, Builtin.firstCells]
  · simp [Builtin.append_, run_underlying ht, sizeOf, typeInfo, hi, Builtin.lenOf, Builtin.firstCells, hnc, storeCells]
theorem wpList_append_rows {α : Type} {cs : α → List Value} {K : Nat} (hK : ∀ x, (cs x).length = K) (hK0 : 0 < K) (hone : ∀ x, ∀ u ∈ cs x, u.oneCell' = true)
    {ops : Array Oper} {rest : List Oper} {o : Oper} {a : Act} {Q : Exit → Act → World → Prop} (hgd : o.guard = none) (s x : Operand) (t : TypeId)
    (ho : o.op = .call { callee := .builtin .append, args := #[s, x], argTypes := #[t, t] })
    (base : Nat) (e : TypeId) (i : TypeInfo) (z : Value) (bytes : Nat) (ht : P.underlying t = some (.slice e)) (hi : P.info? e = some i) (hz : i.zero = some z) (hsize : i.size = K) (hby : i.bytes = bytes) (hzs : z.cells.size = K)
    (v : Value) (l1 : List α) (hs : a.eval s = v) (hown : OwnR w base e K cs v l1) (va : Value) (l : List α) (hx : a.eval x = va) (hp : RowsAt w K cs va l) (h63 : l1.length + l.length ≤ maxLen) (hbytes : (l1.length + l.length) * bytes ≤ 140737488355328) (hbase : base ≤ w.heap.size)
    (h : ∀ v' w', OwnR w' base e K cs v' (l1 ++ l) → w.grownBy w' v.ownBlock → wpList P ops Q rest (a.put o.dst v') w') : wpList P ops Q (o :: rest) a w := by
  obtain ⟨ad, cap, rfl, hcap, hc⟩ := hp
  cases ad with
  | none =>
    have hl0 : l.length = 0 := by
      rcases Nat.eq_zero_or_pos l.length with h0 | h0
      · exact h0
      · obtain ⟨g, o', e', _⟩ := hc h0
        cases e'
    have : l = [] := List.eq_nil_of_length_eq_zero hl0
    subst this
    refine wpList_plain hgd fun K' hK' => ?_
    have hrun := run_append_nil' (P := P) (w := w) base t o.type e i K cap ht hi v _ _ hown
    unfold Oper.wp
    simp only [List.length_nil] at hx
    simp [execOp, ho, resolve, invoke, builtin, hs, hx, hrun, Result.andThen]
    exact hK' _ _ (h v w (by simpa using hown) ⟨rfl, rfl, rfl, Nat.le_refl _, fun _ _ _ => rfl⟩)
  | some ad =>
    refine wpList_append_own w hgd s x t ho base e i z K bytes ht hi hz hsize hby hzs hK0 v l1.length (flats cs l1) hs hown ad l.length cap (flats cs l) hx (flats_length hK l) ?_ ?_ h63 hbytes hbase fun v' w' h1 h2 _ => h v' w' ?_ h2
    · intro j u hu
      obtain ⟨q, i', y, e1, e2, e3⟩ := flats_inv hK l j u hu
      obtain ⟨g, o', e', hg, hcell⟩ := hc (by have := (List.getElem?_eq_some_iff.1 e2).1; omega)
      cases e'
      have := hcell q y e2 i' u e3
      subst e1
      rw [add_plain]
      rw [← this]
      congr 2
      omega
    · intro u hu
      obtain ⟨j, hj, rfl⟩ := List.getElem_of_mem hu
      obtain ⟨q, i', y, e1, e2, e3⟩ := flats_inv hK l j _ (List.getElem?_eq_getElem hj)
      exact hone y _ (List.mem_of_getElem? e3)
    · unfold OwnR
      rw [List.length_append, flats_append]
      exact h1
end
theorem csB_one (b : UInt8) : ∀ u ∈ csB b, u.oneCell' = true := by
  intro u hu
  simp [csB] at hu
  subst hu
  rfl
/-- a new row of nothing -/
theorem ownb_empty (w : World) : OwnB (w.alloc (.cells #[] 5)) w.heap.size (.slice (some ⟨w.heap.size, 0, none⟩) 0 0) [] :=
  ⟨rfl, .inr ⟨w.heap.size, 0, #[], rfl, Nat.le_refl _, Array.getElem?_push_size, Nat.le_refl _, by simp [maxLen], rfl, rfl⟩⟩

/-! ### As a string -/
theorem str_eq (l r : List UInt8) : (decide ((⟨l.toArray⟩ : ByteArray) = ⟨r.toArray⟩)) = decide (l = r) := by
  apply decide_eq_decide.2
  constructor
  · intro h
    have := congrArg ByteArray.data h
    simpa using this
  · rintro rfl
    rfl

/-- what fits -/
theorem u64_bd {n : Int} (h : (Lit.int .u64 n).wf = true) : 0 ≤ n ∧ n < 18446744073709551616 := by
  have k1 : IntKind.u64.min = 0 := rfl
  have k2 : IntKind.u64.max = 18446744073709551615 := rfl
  simp only [Lit.wf, Bool.and_eq_true, decide_eq_true_eq, k1, k2] at h
  omega
theorem u8_bd {n : Int} (h : (Lit.int .u8 n).wf = true) : 0 ≤ n ∧ n < 256 := by
  have k1 : IntKind.u8.min = 0 := rfl
  have k2 : IntKind.u8.max = 255 := rfl
  simp only [Lit.wf, Bool.and_eq_true, decide_eq_true_eq, k1, k2] at h
  omega
theorem u32_bd {n : Int} (h : (Lit.int .u32 n).wf = true) : 0 ≤ n ∧ n < 4294967296 := by
  have k1 : IntKind.u32.min = 0 := rfl
  have k2 : IntKind.u32.max = 4294967295 := rfl
  simp only [Lit.wf, Bool.and_eq_true, decide_eq_true_eq, k1, k2] at h
  omega
theorem u16_bd {n : Int} (h : (Lit.int .u16 n).wf = true) : 0 ≤ n ∧ n < 65536 := by
  have k1 : IntKind.u16.min = 0 := rfl
  have k2 : IntKind.u16.max = 65535 := rfl
  simp only [Lit.wf, Bool.and_eq_true, decide_eq_true_eq, k1, k2] at h
  omega
end Go.Proofs.YthchkhgimnchcaaGreat
