/- Mathematics for the law WalkLaws: paths, and walks one behind the other. -/
import Derived.Test.YtibeljppjaenbaaWalkLeastB
import Derived.Test.YtibeljppjaenbaaWalkH
import Derived.Test.YtibeljppjaenbaaMotionC
namespace Go.Proofs.Ytibeljppjaenbaa
open Go.RowKit

/-- a step of one -/
def Unit1 (p q : Int × Int) : Prop := (q.1 - p.1 = 1 ∧ q.2 - p.2 = 0) ∨ (q.1 - p.1 = -1 ∧ q.2 - p.2 = 0) ∨ (q.1 - p.1 = 0 ∧ q.2 - p.2 = 1) ∨ (q.1 - p.1 = 0 ∧ q.2 - p.2 = -1)
def Path : Int × Int → List (Int × Int) → Prop
  | _, [] => True
  | p, q :: l => Unit1 p q ∧ Path q l
def endp (p : Int × Int) (l : List (Int × Int)) : Int × Int := l.getLast?.getD p
theorem endp_append (p : Int × Int) (a b : List (Int × Int)) : endp p (a ++ b) = endp (endp p a) b := by
  unfold endp
  rw [List.getLast?_append]
  cases b.getLast? <;> simp
theorem endp_cons (p q : Int × Int) (l : List (Int × Int)) : endp p (q :: l) = endp q l := by
  have h := endp_append p [q] l
  exact h
theorem Path.append {p : Int × Int} {a b : List (Int × Int)} (ha : Path p a) (hb : Path (endp p a) b) : Path p (a ++ b) := by
  induction a generalizing p with
  | nil => exact hb
  | cons q a ih =>
    rw [endp_cons] at hb
    exact ⟨ha.1, ih ha.2 hb⟩
theorem unit_pair (q : Nat) : (uq q = 1 ∧ vq q = 0) ∨ (uq q = -1 ∧ vq q = 0) ∨ (uq q = 0 ∧ vq q = 1) ∨ (uq q = 0 ∧ vq q = -1) := by
  have e := rot_mod q 1 0
  have e1 : uq q = uq (q % 4) := (congrArg Prod.fst e).symm
  have e2 : vq q = vq (q % 4) := (congrArg Prod.snd e).symm
  rw [e1, e2]
  have h : q % 4 = 0 ∨ q % 4 = 1 ∨ q % 4 = 2 ∨ q % 4 = 3 := by omega
  rcases h with h | h | h | h <;> rw [h] <;> decide
theorem sgn_pair {σ : Int} (h : σ = 1 ∨ σ = -1) (q : Nat) : (σ * uq q = 1 ∧ σ * vq q = 0) ∨ (σ * uq q = -1 ∧ σ * vq q = 0) ∨ (σ * uq q = 0 ∧ σ * vq q = 1) ∨ (σ * uq q = 0 ∧ σ * vq q = -1) := by
  rcases unit_pair q with ⟨e1, e2⟩ | ⟨e1, e2⟩ | ⟨e1, e2⟩ | ⟨e1, e2⟩ <;> rw [e1, e2] <;> rcases h with rfl | rfl <;> decide
theorem tline_path {dx dy : Int} (h : (dx = 1 ∧ dy = 0) ∨ (dx = -1 ∧ dy = 0) ∨ (dx = 0 ∧ dy = 1) ∨ (dx = 0 ∧ dy = -1)) (x y : Int) (n : Nat) : Path (x, y) (tline x y dx dy n) ∧ endp (x, y) (tline x y dx dy n) = (x + n * dx, y + n * dy) := by
  induction n with
  | zero => exact ⟨trivial, by simp [tline, endp]⟩
  | succ n ih =>
    obtain ⟨h1, h2⟩ := ih
    have e : tline x y dx dy (n + 1) = tline x y dx dy n ++ [(x + ((n : Int) + 1) * dx, y + ((n : Int) + 1) * dy)] := rfl
    rw [e]
    refine ⟨h1.append ?_, ?_⟩
    · rw [h2]
      refine ⟨?_, trivial⟩
      have e1 := lin_one x dx n
      have e2 := lin_one y dy n
      unfold Unit1
      simp only
      rw [← e1, ← e2]
      omega
    · rw [endp_append, h2]
      rfl
theorem tadd_path (s : Int × Int × Int) (m : Int × Int) (h : In4 s) : Path s.2 (tadd s m) ∧ endp s.2 (tadd s m) = (estep s m).2 := by
  obtain ⟨T, X, Y⟩ := s
  by_cases hz : (pln m).1 = 0
  · rw [tadd_none hz, estep_pln T X Y m h, hz]
    exact ⟨trivial, by simp [endp]⟩
  · obtain ⟨σ, N, hσ, _, _, _, _, htad, hest⟩ := step_line h hz (X := X) (Y := Y)
    rw [htad, hest]
    exact tline_path (sgn_pair hσ _) X Y N
theorem estep_in4 (s : Int × Int × Int) (m : Int × Int) (h : In4 s) : In4 (estep s m) := by
  obtain ⟨T, X, Y⟩ := s
  rw [estep_pln T X Y m h]
  exact pstep_in (T, X, Y) (pln m)
theorem tpts_path (l : List (Int × Int)) (s : Int × Int × Int) (h : In4 s) : Path s.2 (tpts l s) ∧ endp s.2 (tpts l s) = (l.foldl estep s).2 := by
  induction l generalizing s with
  | nil => exact ⟨trivial, rfl⟩
  | cons m l ih =>
    obtain ⟨h1, h2⟩ := tadd_path s m h
    obtain ⟨h3, h4⟩ := ih _ (estep_in4 s m h)
    simp only [tpts]
    refine ⟨h1.append (by rw [h2]; exact h3), ?_⟩
    rw [endp_append, h2, h4]
    rfl
/-- the points of a trace: each a step of one from the one ahead, the last where the walk ends -/
theorem Path.at {p : Int × Int} {l : List (Int × Int)} (h : Path p l) (i : Nat) (x y : Int × Int) (hx : (p :: l)[i]? = some x) (hy : (p :: l)[i + 1]? = some y) : Unit1 x y := by
  induction l generalizing p i with
  | nil => simp at hy
  | cons q l ih =>
    cases i with
    | zero =>
      simp at hx hy
      subst hx hy
      exact h.1
    | succ i => exact ih h.2 i (by simpa using hx) (by simpa using hy)
theorem Path.bd {p : Int × Int} {l : List (Int × Int)} (h : Path p l) (B : Nat) (hb : p.1.natAbs ≤ B ∧ p.2.natAbs ≤ B) (i : Nat) (x : Int × Int) (hx : (p :: l)[i]? = some x) : x.1.natAbs ≤ B + i ∧ x.2.natAbs ≤ B + i := by
  induction l generalizing p i B with
  | nil =>
    cases i with
    | zero => simp at hx; subst hx; exact hb
    | succ i => simp at hx
  | cons q l ih =>
    cases i with
    | zero => simp at hx; subst hx; exact hb
    | succ i =>
      have hq : q.1.natAbs ≤ B + 1 ∧ q.2.natAbs ≤ B + 1 := by
        have hu := h.1
        unfold Unit1 at hu
        omega
      have := ih h.2 (B + 1) hq i (by simpa using hx)
      omega
theorem trc_near {l : List (Int × Int)} (h : stps l ≤ 250) : trc l = ((0, 0) :: tpts l (0, 0, 0), 0) := by unfold trc; rw [if_neg (by omega)]
theorem trc_last (l : List (Int × Int)) (x : Int × Int) (hx : ((0, 0) :: tpts l (0, 0, 0))[(tpts l (0, 0, 0)).length]? = some x) : x = (eend l).2 := by
  have h := (tpts_path l (0, 0, 0) ⟨by decide, by decide⟩).2
  have e : (((0 : Int), (0 : Int)) :: tpts l (0, 0, 0)).getLast? = some x := by
    rw [List.getLast?_eq_getElem?]
    simpa using hx
  unfold endp at h
  unfold eend
  rw [← h]
  cases hl : tpts l (0, 0, 0) with
  | nil =>
    rw [hl] at e
    simp at e
    rw [← e]
    rfl
  | cons q t =>
    rw [hl] at e
    rw [List.getLast?_cons_cons] at e
    rw [e]
    rfl

/-! ### Near walks end near -/
theorem fold_bd (ls : List P2) (e : Int × Int × Int) : (ls.foldl pstep e).2.1.natAbs ≤ e.2.1.natAbs + tot ls ∧ (ls.foldl pstep e).2.2.natAbs ≤ e.2.2.natAbs + tot ls := by
  induction ls generalizing e with
  | nil => simp [tot]
  | cons x ls ih =>
    rw [List.foldl_cons, tot_cons]
    have h := ih (pstep e x)
    have hu := unit_abs (e.1 % 4).toNat
    have h1 : (x.1 * uq (e.1 % 4).toNat).natAbs ≤ x.1.natAbs * 1 := mul_bd (Nat.le_refl _) hu.1
    have h2 : (x.1 * vq (e.1 % 4).toNat).natAbs ≤ x.1.natAbs * 1 := mul_bd (Nat.le_refl _) hu.2
    have e1 : (pstep e x).2.1 = e.2.1 + x.1 * uq (e.1 % 4).toNat := rfl
    have e2 : (pstep e x).2.2 = e.2.2 + x.1 * vq (e.1 % 4).toNat := rfl
    rw [e1, e2] at h
    generalize x.1 * uq (e.1 % 4).toNat = a at h h1
    generalize x.1 * vq (e.1 % 4).toNat = b at h h2
    obtain ⟨g1, g2⟩ := h
    clear ih hu e1 e2
    exact ⟨by omega, by omega⟩
theorem eend_near {l : List (Int × Int)} (h : stps l ≤ 250) : (eend l).2.1.natAbs ≤ 250 ∧ (eend l).2.2.natAbs ≤ 250 := by
  have h1 := fold_bd (l.map pln) (0, 0, 0)
  rw [← eend_pln] at h1
  have h2 := tot_stps l
  simp only [Int.natAbs_zero, Nat.zero_add] at h1
  omega
theorem fx_near {n : Int} (h : n.natAbs ≤ 250) : fx n = n := by unfold fx; omega
theorem then_is {T X Y T' X' Y' : Int} (h : 0 ≤ T ∧ T ≤ 3) (h' : 0 ≤ T' ∧ T' ≤ 3) (hx : X.natAbs ≤ 250) (hy : Y.natAbs ≤ 250) (hx' : X'.natAbs ≤ 250) (hy' : Y'.natAbs ≤ 250) :
    ((((qr T' + qr T) % 4 : Nat) : Int), (rot (qr T) (fx X') (fx Y')).1 + fx X, (rot (qr T) (fx X') (fx Y')).2 + fx Y) = cmp (T, X, Y) (T', X', Y') := by
  rw [fx_near hx, fx_near hy, fx_near hx', fx_near hy']
  unfold cmp qr
  simp only
  refine Prod.ext ?_ (Prod.ext ?_ ?_)
  · show ((((T' % 4).toNat + (T % 4).toNat) % 4 : Nat) : Int) = (T + T') % 4
    omega
  · exact Int.add_comm _ _
  · exact Int.add_comm _ _
theorem rot_undo {q : Nat} (hq : q < 4) {x y u v : Int} (h : rot q x y = (u, v)) : rot ((4 - q) % 4) u v = (x, y) := by
  have e := rot_add ((4 - q) % 4) q x y
  rw [h] at e
  simp only at e
  rw [e]
  have hm := rot_mod ((4 - q) % 4 + q) x y
  rw [← hm, show ((4 - q) % 4 + q) % 4 = 0 by omega]
  rfl
theorem back_is {l : List (Int × Int)} {T X Y : Int} (he : eend l = (T, X, Y)) (hx : X.natAbs ≤ 250) (hy : Y.natAbs ≤ 250) :
    ((((4 - qr T) % 4 : Nat) : Int), (rot ((4 - qr T) % 4) (-fx X) (-fx Y)).1, (rot ((4 - qr T) % 4) (-fx X) (-fx Y)).2) = eend (revw l) := by
  have h := eend_undo l
  rw [eend_append, he] at h
  have hT := eend_all l
  have hT' := eend_all (revw l)
  rw [he] at hT
  obtain ⟨⟨T', X', Y'⟩, hr⟩ : ∃ e, eend (revw l) = e := ⟨_, rfl⟩
  rw [hr] at h hT'
  unfold cmp at h
  simp only [Prod.mk.injEq] at h hT hT'
  obtain ⟨h1, h2, h3⟩ := h
  rw [fx_near hx, fx_near hy, hr]
  have hq : (T % 4).toNat < 4 := by omega
  have hrot : rot (T % 4).toNat X' Y' = (-X, -Y) := Prod.ext (by show (rot (T % 4).toNat X' Y').1 = -X; omega) (by show (rot (T % 4).toNat X' Y').2 = -Y; omega)
  have e := rot_undo hq hrot
  unfold qr
  rw [e]
  refine Prod.ext ?_ rfl
  show (((4 - (T % 4).toNat) % 4 : Nat) : Int) = T'
  omega
end Go.Proofs.Ytibeljppjaenbaa
