/- Texts of this proof, joined: WalkMath; WalkRefR; WalkRefM; WalkRefN; MotionB; MotionC; MotionR; PlanRefA; PlanRefB; PlanRefC; FenceMath. -/
import Derived.Test.YthchkhgimnchcaaGreatBun3
import Derived.Test.YthchkhgimnchcaaGreatRows
import Derived.Deep.RegionHeld3
import Derived.Deep.AppendLies
import Derived.Deep.DrawnRows
/- What moves do, put together: one way to be short. Plain mathematics. -/
namespace Go.Proofs.YthchkhgimnchcaaGreat

/-- steps on, or quarters to the left -/
abbrev P2 := Int × Int
def sort2 (x : P2) : Bool := decide (x.1 ≠ 0)
def Gd (x : P2) : Prop := (x.2 = 0 ∨ x.1 = 0) ∧ 0 ≤ x.2 ∧ x.2 ≤ 3
def comb (x y : P2) : P2 := (x.1 + y.1, (x.2 + y.2) % 4)
theorem comb_gd {x y : P2} (hx : Gd x) (hy : Gd y) (h : sort2 x = sort2 y) : Gd (comb x y) := by
  obtain ⟨a, b⟩ := x
  obtain ⟨c, d⟩ := y
  unfold Gd comb sort2 at *
  simp only [decide_eq_decide] at *
  omega
theorem comb_sort {x y : P2} (hx : Gd x) (hy : Gd y) (h : sort2 x = sort2 y) (h0 : comb x y ≠ (0, 0)) : sort2 (comb x y) = sort2 x := by
  obtain ⟨a, b⟩ := x
  obtain ⟨c, d⟩ := y
  unfold Gd comb sort2 at *
  simp only [decide_eq_decide, ne_eq, Prod.mk.injEq] at *
  omega

/-- one of the first things to do: none of nothing -/
def mrg1 : List P2 → Option (List P2)
  | [] => none
  | [x] => if x = (0, 0) then some [] else none
  | x :: y :: l => if x = (0, 0) then some (y :: l) else if sort2 x = sort2 y ∧ y ≠ (0, 0) then some (comb x y :: l) else (mrg1 (y :: l)).map (x :: ·)

/-- what is put on what stands on top -/
def psh (s : List P2) (x : P2) : List P2 :=
  if x = (0, 0) then s else
  match s with
  | [] => [x]
  | t :: s' => if sort2 t = sort2 x then (if comb t x = (0, 0) then s' else comb t x :: s') else x :: t :: s'
def nfs (l : List P2) : List P2 := l.foldl psh []

/-- sorts in turn, nothing of nothing -/
def Alt : List P2 → Prop
  | [] => True
  | [x] => Gd x ∧ x ≠ (0, 0)
  | x :: y :: l => Gd x ∧ x ≠ (0, 0) ∧ sort2 x ≠ sort2 y ∧ Alt (y :: l)
theorem Alt.tail {x : P2} {l : List P2} (h : Alt (x :: l)) : Alt l := by
  cases l with
  | nil => trivial
  | cons y l => exact h.2.2.2
theorem Alt.head {x : P2} {l : List P2} (h : Alt (x :: l)) : Gd x ∧ x ≠ (0, 0) := by
  cases l with
  | nil => exact h
  | cons y l => exact ⟨h.1, h.2.1⟩
theorem Alt.swap {x c : P2} {l : List P2} (h : Alt (x :: l)) (hg : Gd c) (h0 : c ≠ (0, 0)) (hs : sort2 c = sort2 x) : Alt (c :: l) := by
  cases l with
  | nil => exact ⟨hg, h0⟩
  | cons y l => exact ⟨hg, h0, by rw [hs]; exact h.2.2.1, h.2.2.2⟩
theorem psh_alt {s : List P2} {x : P2} (hs : Alt s) (hx : Gd x) : Alt (psh s x) := by
  unfold psh
  by_cases h0 : x = (0, 0)
  · rw [if_pos h0]; exact hs
  · rw [if_neg h0]
    cases s with
    | nil => exact ⟨hx, h0⟩
    | cons t s' =>
      simp only
      by_cases h1 : sort2 t = sort2 x
      · rw [if_pos h1]
        by_cases h2 : comb t x = (0, 0)
        · rw [if_pos h2]; exact hs.tail
        · rw [if_neg h2]
          exact hs.swap (comb_gd hs.head.1 hx h1) h2 (comb_sort hs.head.1 hx h1 h2)
      · rw [if_neg h1]
        exact ⟨hx, h0, fun e => h1 e.symm, hs⟩
theorem comb_assoc (x y z : P2) : comb (comb x y) z = comb x (comb y z) := by
  unfold comb
  refine Prod.ext ?_ ?_
  · simp only; omega
  · simp only; omega
theorem comb_undo {t x y : P2} (hx : Gd y) (h : comb t x = (0, 0)) : comb t (comb x y) = y := by
  rw [← comb_assoc, h]
  obtain ⟨c, d⟩ := y
  unfold comb Gd at *
  refine Prod.ext ?_ ?_
  · simp only at *; omega
  · simp only at *; omega
theorem comb_back {t x y : P2} (ht : Gd t) (hy : Gd y) (h : comb t x = (0, 0)) (h' : comb x y = (0, 0)) : y = t := by
  have e := comb_undo hy h
  rw [h'] at e
  rw [← e]
  obtain ⟨c, d⟩ := t
  unfold comb Gd at *
  refine Prod.ext ?_ ?_
  · simp only at *; omega
  · simp only at *; omega

/-- two of one sort, one behind the other, are one -/
theorem psh_two {s : List P2} {x y : P2} (hs : Alt s) (hx : Gd x) (hy : Gd y) (x0 : x ≠ (0, 0)) (y0 : y ≠ (0, 0)) (h : sort2 x = sort2 y) : psh (psh s x) y = psh s (comb x y) := by
  have pn : ∀ {s : List P2}, psh s (0, 0) = s := fun {s} => by unfold psh; rw [if_pos rfl]
  cases s with
  | nil =>
    have e : psh [] x = [x] := by unfold psh; rw [if_neg x0]
    rw [e]
    by_cases hc : comb x y = (0, 0)
    · rw [hc, pn]
      unfold psh
      rw [if_neg y0]
      simp only
      rw [if_pos h, if_pos hc]
    · unfold psh
      rw [if_neg y0, if_neg hc]
      simp only
      rw [if_pos h, if_neg hc]
  | cons t s' =>
    have ht := hs.head
    by_cases h1 : sort2 t = sort2 x
    · by_cases h2 : comb t x = (0, 0)
      · -- x takes the top away
        have e : psh (t :: s') x = s' := by unfold psh; rw [if_neg x0]; simp only; rw [if_pos h1, if_pos h2]
        rw [e]
        have e2 : psh s' y = y :: s' := by
          unfold psh
          rw [if_neg y0]
          cases s' with
          | nil => rfl
          | cons r s'' =>
            simp only
            rw [if_neg (fun e => hs.2.2.1 (by rw [h1, h, e]))]
        rw [e2]
        by_cases hc : comb x y = (0, 0)
        · rw [hc, pn, comb_back ht.1 hy h2 hc]
        · have h3 : sort2 t = sort2 (comb x y) := by rw [comb_sort hx hy h hc, h1]
          have e3 := comb_undo hy h2
          unfold psh
          rw [if_neg hc]
          simp only
          rw [if_pos h3, e3, if_neg y0]
      · have e : psh (t :: s') x = comb t x :: s' := by unfold psh; rw [if_neg x0]; simp only; rw [if_pos h1, if_neg h2]
        have h4 : sort2 (comb t x) = sort2 y := by rw [comb_sort ht.1 hx h1 h2, h1, h]
        rw [e]
        by_cases hc : comb x y = (0, 0)
        · rw [hc, pn]
          have e5 : comb (comb t x) y = t := by
            rw [comb_assoc, hc]
            obtain ⟨c, d⟩ := t
            have := ht.1
            unfold comb Gd at *
            refine Prod.ext ?_ ?_
            · simp only at *; omega
            · simp only at *; omega
          unfold psh
          rw [if_neg y0]
          simp only
          rw [if_pos h4, e5, if_neg ht.2]
        · have h3 : sort2 t = sort2 (comb x y) := by rw [comb_sort hx hy h hc, h1]
          unfold psh
          rw [if_neg y0, if_neg hc]
          simp only
          rw [if_pos h4, if_pos h3, comb_assoc]
    · have e : psh (t :: s') x = x :: t :: s' := by unfold psh; rw [if_neg x0]; simp only; rw [if_neg h1]
      rw [e]
      by_cases hc : comb x y = (0, 0)
      · rw [hc, pn]
        unfold psh
        rw [if_neg y0]
        simp only
        rw [if_pos h, if_pos hc]
      · have h3 : sort2 t ≠ sort2 (comb x y) := by rw [comb_sort hx hy h hc]; exact h1
        unfold psh
        rw [if_neg y0, if_neg hc]
        simp only
        rw [if_pos h, if_neg hc, if_neg h3]

/-- a thing done changes nothing of what comes out -/
theorem mrg_nf {l l' : List P2} (hl : ∀ x ∈ l, Gd x) (h : mrg1 l = some l') : (∀ x ∈ l', Gd x) ∧ l'.length + 1 = l.length ∧ ∀ s, Alt s → l.foldl psh s = l'.foldl psh s := by
  induction l generalizing l' with
  | nil => simp [mrg1] at h
  | cons x l ih =>
    have gx := hl x (by simp)
    cases l with
    | nil =>
      unfold mrg1 at h
      split at h
      · rename_i e
        cases h
        refine ⟨by simp, rfl, fun s _ => ?_⟩
        subst e
        simp [psh]
      · cases h
    | cons y l =>
      have gy := hl y (by simp)
      unfold mrg1 at h
      by_cases h0 : x = (0, 0)
      · rw [if_pos h0] at h
        cases h
        refine ⟨fun z hz => hl z (by simp at hz ⊢; exact .inr hz), rfl, fun s _ => ?_⟩
        subst h0
        simp [psh]
      · rw [if_neg h0] at h
        by_cases h1 : sort2 x = sort2 y ∧ y ≠ (0, 0)
        · rw [if_pos h1] at h
          cases h
          refine ⟨fun z hz => ?_, rfl, fun s hs => ?_⟩
          · simp at hz
            rcases hz with rfl | hz
            · exact comb_gd gx gy h1.1
            · exact hl z (by simp; exact .inr (.inr hz))
          · simp only [List.foldl_cons]
            rw [psh_two hs gx gy h0 h1.2 h1.1]
        · rw [if_neg h1] at h
          cases hm : mrg1 (y :: l) with
          | none => rw [hm] at h; cases h
          | some t =>
            rw [hm] at h
            cases h
            obtain ⟨a, b, c⟩ := ih (fun z hz => hl z (List.mem_cons_of_mem _ hz)) hm
            refine ⟨fun z hz => ?_, by simp only [List.length_cons] at b ⊢; omega, fun s hs => ?_⟩
            · simp at hz
              rcases hz with rfl | hz
              · exact gx
              · exact a z hz
            · rw [List.foldl_cons, List.foldl_cons]
              exact c _ (psh_alt hs gx)
/-- what nothing is to be done to: sorts in turn -/
theorem mrg_none {l : List P2} (hl : ∀ x ∈ l, Gd x) (h : mrg1 l = none) : Alt l := by
  induction l with
  | nil => trivial
  | cons x l ih =>
    have gx := hl x (by simp)
    cases l with
    | nil =>
      unfold mrg1 at h
      split at h
      · cases h
      · rename_i e; exact ⟨gx, e⟩
    | cons y l =>
      unfold mrg1 at h
      by_cases h0 : x = (0, 0)
      · rw [if_pos h0] at h; cases h
      · rw [if_neg h0] at h
        by_cases h1 : sort2 x = sort2 y ∧ y ≠ (0, 0)
        · rw [if_pos h1] at h; cases h
        · rw [if_neg h1] at h
          have hm : mrg1 (y :: l) = none := by
            cases hm : mrg1 (y :: l) with
            | none => rfl
            | some t => rw [hm] at h; cases h
          have ha := ih (fun z hz => hl z (List.mem_cons_of_mem _ hz)) hm
          exact ⟨gx, h0, fun e => h1 ⟨e, ha.head.2⟩, ha⟩
theorem foldl_alt {a s : List P2} (h : Alt (a.reverse ++ s)) : a.foldl psh s = a.reverse ++ s := by
  induction a generalizing s with
  | nil => rfl
  | cons x a ih =>
    rw [List.reverse_cons, List.append_assoc] at h ⊢
    rw [List.foldl_cons]
    have h1 : Alt (x :: s) := by
      clear ih
      generalize a.reverse = r at h
      induction r with
      | nil => exact h
      | cons y r ihr => exact ihr (Alt.tail h)
    have e : psh s x = x :: s := by
      unfold psh
      rw [if_neg h1.head.2]
      cases s with
      | nil => rfl
      | cons t s' => simp only; rw [if_neg (fun e => h1.2.2.1 e.symm)]
    rw [e]
    exact ih h
theorem Alt.reverse_aux {l s : List P2} (h : Alt l) (hs : Alt s) (hj : ∀ x y, l.head? = some x → s.head? = some y → sort2 x ≠ sort2 y) : Alt (l.reverse ++ s) := by
  induction l generalizing s with
  | nil => exact hs
  | cons x l ih =>
    rw [List.reverse_cons, List.append_assoc]
    have hx : Alt (x :: s) := by
      cases s with
      | nil => exact h.head
      | cons y s => exact ⟨h.head.1, h.head.2, hj x y rfl rfl, hs⟩
    refine ih h.tail hx ?_
    intro a b ha hb
    simp at hb
    subst hb
    cases l with
    | nil => simp at ha
    | cons z l => simp at ha; subst ha; exact fun e => h.2.2.1 e.symm
theorem Alt.reverse {l : List P2} (h : Alt l) : Alt l.reverse := by
  have := h.reverse_aux (s := []) trivial (by simp)
  simpa using this
/-- what is short comes out as it is -/
theorem nfs_alt {l : List P2} (h : Alt l) : nfs l = l.reverse := by
  unfold nfs
  have := foldl_alt (a := l) (s := []) (by simpa using h.reverse)
  simpa using this
theorem nfs_is {l l' : List P2} (hl : ∀ x ∈ l, Gd x) (h : mrg1 l = some l') : nfs l = nfs l' := (mrg_nf hl h).2.2 [] trivial
theorem alt_nfs {l : List P2} (hl : ∀ x ∈ l, Gd x) : Alt (nfs l) := by
  unfold nfs
  have : ∀ s, Alt s → Alt (l.foldl psh s) := by
    induction l with
    | nil => exact fun s h => h
    | cons x l ih => exact fun s h => ih (fun z hz => hl z (List.mem_cons_of_mem _ hz)) _ (psh_alt h (hl x (by simp)))
  exact this [] trivial
end Go.Proofs.YthchkhgimnchcaaGreat
/- The walks of the document's answers for layer 5: each point that a walk comes to. -/
namespace Go.Proofs.YthchkhgimnchcaaGreat
open Go.RowKit

/-- a row of steps from a point on -/
def tline (x y dx dy : Int) : Nat → List (Int × Int)
  | 0 => []
  | n + 1 => tline x y dx dy n ++ [(x + ((n : Int) + 1) * dx, y + ((n : Int) + 1) * dy)]
theorem tline_length (x y dx dy : Int) (n : Nat) : (tline x y dx dy n).length = n := by
  induction n with
  | zero => rfl
  | succ n ih => simp [tline, ih]
/-- what a move adds to the points -/
def tadd (s : Int × Int × Int) (m : Int × Int) : List (Int × Int) :=
  if m.1 = 1 then tline s.2.1 s.2.2 (uq (s.1 % 4).toNat) (vq (s.1 % 4).toNat) (cnt m).toNat
  else if m.1 = 2 then tline s.2.1 s.2.2 (-uq (s.1 % 4).toNat) (-vq (s.1 % 4).toNat) (cnt m).toNat
  else []
/-- the points of a walk -/
def tpts : List (Int × Int) → (Int × Int × Int) → List (Int × Int)
  | [], _ => []
  | m :: l, s => tadd s m ++ tpts l (estep s m)
theorem tpts_append (a b : List (Int × Int)) (s : Int × Int × Int) : tpts (a ++ b) s = tpts a s ++ tpts b (a.foldl estep s) := by
  induction a generalizing s with
  | nil => rfl
  | cons m a ih => simp [tpts, ih]
theorem tpts_succ (l : List (Int × Int)) (k : Nat) (h : k < l.length) : tpts (l.take (k + 1)) (0, 0, 0) = tpts (l.take k) (0, 0, 0) ++ tadd (eend (l.take k)) l[k] := by
  rw [List.take_add_one, List.getElem?_eq_getElem h, tpts_append]
  simp [tpts, eend]
theorem tadd_length (s : Int × Int × Int) (m : Int × Int) : ((tadd s m).length : Int) = if m.1 = 1 ∨ m.1 = 2 then cnt m else 0 := by
  have := cnt_bd m
  unfold tadd
  split
  · rw [tline_length, if_pos (by omega)]; omega
  · split
    · rw [tline_length, if_pos (by omega)]; omega
    · rw [if_neg (by omega)]; rfl
theorem tpts_length (l : List (Int × Int)) (s : Int × Int × Int) : ((tpts l s).length : Int) = stps l := by
  induction l generalizing s with
  | nil => rfl
  | cons m l ih => simp only [tpts, List.length_append, stps, Int.natCast_add, ih, tadd_length]

theorem OwnP.kept {w w1 : World} {B : Nat} {e : TypeId} {v : Value} {l : List (Int × Int)} (h : OwnP w B e v l) (hb : Below w.heap.size w w1) : OwnP w1 B e v l := by
  refine ⟨h.1, ?_⟩
  rcases h.2 with h0 | ⟨g, cap, cur, rfl, hg, hh, rest⟩
  · exact .inl h0
  · exact .inr ⟨g, cap, cur, rfl, hg, (hb.block g (lt_of_block hh)).trans hh, rest⟩
theorem OwnP.away {w : World} {B : Nat} {e : TypeId} {v : Value} {l : List (Int × Int)} (h : OwnP w B e v l) (p : Addr) (u : Value) (hne : v.ownBlock ≠ some p.block) : OwnP (w.setCell p u) B e v l := by
  refine ⟨h.1, ?_⟩
  rcases h.2 with h0 | ⟨g, cap, cur, rfl, hg, hh, rest⟩
  · exact .inl h0
  · refine .inr ⟨g, cap, cur, rfl, hg, ?_, rest⟩
    have hgp : g ≠ p.block := fun e => hne (by simp [Value.ownBlock, e])
    rw [Below.heap_setCell w p u g (by intro e; exact hgp e)]
    exact hh
/-- a list of two or more lies in no block of two cells -/
theorem OwnP.other {w : World} {B : Nat} {e : TypeId} {v : Value} {l : List (Int × Int)} (h : OwnP w B e v l) (hl : 2 ≤ l.length) {b : Nat} {x y : Value} {t : TypeId} (hb : w.heap[b]? = some (.cells #[x, y] t)) : v.ownBlock ≠ some b := by
  rcases h.2 with ⟨rfl, h0⟩ | ⟨g, cap, cur, rfl, hg, hh, hnc, hcp, hcs, _⟩
  · simp [Value.ownBlock]
  · intro e
    simp [Value.ownBlock] at e
    subst e
    rw [hb] at hh
    simp only [Option.some.injEq, Obj.cells.injEq] at hh
    have h2 : cur.size = 2 := by rw [← hh.1]; rfl
    omega
theorem OwnP.keeps {w w1 : World} {B : Nat} {e : TypeId} {v : Value} {l : List (Int × Int)} (_h : OwnP w B e v l) {wq : World} (hg : wq.grownBy w1 v.ownBlock) {b : Nat} {o : Obj} (hb : wq.heap[b]? = some o) (hne : v.ownBlock ≠ some b) : w1.heap[b]? = some o := by
  have hlt : b < wq.heap.size := lt_of_block hb
  rw [hg.block b hlt (fun e => hne e.symm)]
  exact hb

theorem heap2_set {w : World} {b : Nat} {x y : Value} {t : TypeId} (h : w.heap[b]? = some (.cells #[x, y] t)) (x' y' : Value) : ((w.setCell ⟨b, 0, none⟩ x').setCell ⟨b, 1, none⟩ y').heap[b]? = some (.cells #[x', y'] t) := by
  unfold World.setCell
  simp only [Array.getElem?_modify, if_pos, h, Option.map_some]
  rfl
theorem own_one (w : World) (B : Nat) (hB : B ≤ w.heap.size) (e : TypeId) (x y : Int) : OwnP (w.alloc (.cells #[.int .i64 x, .int .i64 y] e)) B e (.slice (some ⟨w.heap.size, 0, none⟩) 1 1) [(x, y)] :=
  ⟨rfl, .inr ⟨w.heap.size, 1, #[.int .i64 x, .int .i64 y], rfl, hB, heap_alloc_new w _, Nat.le_refl _, by decide, rfl, rfl⟩⟩
theorem info_point : (Tryz.prog.info? 47).map (fun i => (i.zero, i.size, i.bytes)) = some (some (.agg #[.int .i64 0, .int .i64 0]), 2, 16) := by kernel_rfl

theorem lin_on (X u : Int) (j : Nat) : X + j * u + 1 * u = X + ((j + 1 : Nat) : Int) * u := by rw [Int.natCast_add, Int.add_mul]; omega
theorem lin_back (X u : Int) (j : Nat) : X + j * -u + -1 * u = X + ((j + 1 : Nat) : Int) * -u := by rw [Int.natCast_add, Int.add_mul]; omega
theorem lin_bd {X u : Int} {j : Nat} (hX : X.natAbs ≤ 300 * 1048576) (hj : j ≤ 1048576) (hu : u.natAbs ≤ 1) : (X + j * u).natAbs ≤ 1000000000000 := by
  have h : ((j : Int) * u).natAbs ≤ 1048576 * 1 := mul_bd (by omega) hu
  omega
theorem own_fin {wr wq w w1 : World} {B : Nat} {e t : TypeId} {v v' : Value} {l : List (Int × Int)} {x y : Int} {b : Nat} {X Y : Value} {A : Obj} (hown : OwnP wr B e v l) (hB : Below B w (wq.alloc A)) (hz : B ≤ (wq.alloc A).heap.size)
    (h1 : w1.ownsRow B e 2 v' (l.length + 1) (flat l ++ [.int .i64 x, .int .i64 y])) (h2 : (wq.alloc A).grownBy w1 v.ownBlock) (hb : wq.heap[b]? = some (.cells #[X, Y] t)) (hne : v.ownBlock ≠ some b) (hl : 1 ≤ l.length) :
    OwnP w1 B e v' (l ++ [(x, y)]) ∧ Below B w w1 ∧ w1.heap[b]? = some (.cells #[X, Y] t) ∧ v'.ownBlock ≠ some b := by
  have o : OwnP w1 B e v' (l ++ [(x, y)]) := by
    unfold OwnP
    rw [List.length_append, flat_append]
    exact h1
  have hh : w1.heap[b]? = some (.cells #[X, Y] t) := hown.keeps h2 ((((Below.refl _ wq).alloc (Nat.le_refl _) A).block b (lt_of_block hb)).trans hb) hne
  exact ⟨o, hown.below hB hz h2, hh, o.other (by rw [List.length_append]; simp; omega) hh⟩

theorem cells_new (w : World) (N : Nat) (hN : w.heap.size = N) (a b : Value) (t : TypeId) : ∀ (j : Nat) (u : Value), [a, b][j]? = some u → (w.alloc (.cells #[a, b] t)).cell? ((⟨N, 0, none⟩ : Addr).add j) = some u := by
  subst hN
  intro j u h
  match j, h with
  | 0, h => simp at h; subst h; simp [Addr.add]
  | 1, h => simp at h; subst h; simp [Addr.add]

/-- what Trace hands back -/
def trc (l : List (Int × Int)) : List (Int × Int) × Int := if 10000 < stps l then ([], 15) else ((0, 0) :: tpts l (0, 0, 0), 0)

end Go.Proofs.YthchkhgimnchcaaGreat
/- The walks of the document's answers for layer 5: moves put together. -/
namespace Go.Proofs.YthchkhgimnchcaaGreat
open Go.RowKit
attribute [local go_sem ↓] Go.wp_at_zero Go.wp_at_succ

theorem mrg_step (l : List P2) (i : Nat) (hi : i < l.length) (h : mrg1 l = (mrg1 (l.drop i)).map (l.take i ++ ·)) :
    (l[i] = (0, 0) → mrg1 l = some (l.take i ++ l.drop (i + 1))) ∧
    (l[i] ≠ (0, 0) → ∀ hj : i + 1 < l.length, sort2 l[i] = sort2 l[i + 1] ∧ l[i + 1] ≠ (0, 0) → mrg1 l = some (l.take i ++ comb l[i] l[i + 1] :: l.drop (i + 2))) ∧
    (l[i] ≠ (0, 0) → (∀ hj : i + 1 < l.length, ¬ (sort2 l[i] = sort2 l[i + 1] ∧ l[i + 1] ≠ (0, 0))) → mrg1 l = (mrg1 (l.drop (i + 1))).map (l.take (i + 1) ++ ·)) := by
  rw [List.drop_eq_getElem_cons hi] at h
  have ht : l.take (i + 1) = l.take i ++ [l[i]] := (List.take_append_getElem hi).symm
  by_cases hj : i + 1 < l.length
  · rw [List.drop_eq_getElem_cons hj] at h
    refine ⟨fun e => ?_, fun e _ e2 => ?_, fun e e2 => ?_⟩
    · rw [h]; unfold mrg1; rw [if_pos e, List.drop_eq_getElem_cons hj]; rfl
    · rw [h]; unfold mrg1; rw [if_neg e, if_pos e2]; rfl
    · rw [h, List.drop_eq_getElem_cons hj]
      conv => lhs; unfold mrg1
      rw [if_neg e, if_neg (e2 hj), ht]
      cases mrg1 (l[i + 1] :: l.drop (i + 1 + 1)) with
      | none => rfl
      | some t => show some (l.take i ++ l[i] :: t) = some (l.take i ++ [l[i]] ++ t); rw [List.append_assoc]; rfl
  · have hd : l.drop (i + 1) = [] := List.drop_eq_nil_of_le (by omega)
    rw [hd] at h ⊢
    refine ⟨fun e => ?_, fun e hj' => absurd hj' hj, fun e _ => ?_⟩
    · rw [h]; unfold mrg1; rw [if_pos e]; rfl
    · rw [h]; unfold mrg1; rw [if_neg e]; rfl

section
variable {P : Program} {w : World}
theorem step_append_own {ops : Array Oper} {o : Oper} {a : Act} {K : Act → World → Prop} {Q : Exit → Act → World → Prop} {E : Prop} (hgd : o.guard = none) (s x : Operand) (t : TypeId)
    (ho : o.op = .call { callee := .builtin .append, args := #[s, x], argTypes := #[t, t] })
    (base : Nat) (e : TypeId) (i : TypeInfo) (z : Value) (size bytes : Nat) (ht : P.underlying t = some (.slice e)) (hi : P.info? e = some i) (hz : i.zero = some z)
    (hsize : i.size = size) (hby : i.bytes = bytes) (hzs : z.cells.size = size) (hsz : 0 < size)
    (v : Value) (n : Nat) (xs : List Value) (hs : a.eval s = v) (hown : w.ownsRow base e size v n xs)
    (ad : Addr) (m c : Nat) (news : List Value) (hx : a.eval x = .slice (some ad) m c) (hl : news.length = m * size) (hnews : ∀ j u, news[j]? = some u → w.cell? (ad.add j) = some u) (h1 : ∀ u ∈ news, u.oneCell' = true)
    (h63 : n + m ≤ maxLen) (hbytes : (n + m) * bytes ≤ 140737488355328) (hbase : base ≤ w.heap.size)
    (h : ∀ v' w', w'.ownsRow base e size v' (n + m) (xs ++ news) → w.grownBy w' v.ownBlock → (v' = .slice none 0 0 ↔ v = .slice none 0 0 ∧ m = 0) → K (a.put o.dst v') w') :
    if Region.wanted o (yielded ops a.tmps) = true then Oper.wp P o a w K Q else E := by
  have hw : Region.wanted o (yielded ops a.tmps) = true := by simp [Region.wanted, hgd]
  rw [if_pos hw]
  exact wp_append_own w s x t ho base e i z size bytes ht hi hz hsize hby hzs hsz v n xs hs hown ad m c news hx hl hnews h1 h63 hbytes hbase h
end
theorem flat_cells {w : World} {g o : Nat} {l : List P2} (h : ∀ j x, l[j]? = some x → w.cell? ⟨g, o + j * 2, none⟩ = some (.int .i64 x.1) ∧ w.cell? ⟨g, o + j * 2 + 1, none⟩ = some (.int .i64 x.2)) :
    ∀ j u, (flat l)[j]? = some u → w.cell? ((⟨g, o, none⟩ : Addr).add j) = some u := by
  intro j u hu
  have hj : j < l.length * 2 := by rw [← flat_length]; exact (List.getElem?_eq_some_iff.1 hu).1
  have hjl : j / 2 < l.length := by omega
  obtain ⟨a, b⟩ := flat_at l (j / 2) _ (List.getElem?_eq_getElem hjl)
  obtain ⟨c, d⟩ := h (j / 2) _ (List.getElem?_eq_getElem hjl)
  have ha : (⟨g, o, none⟩ : Addr).add j = ⟨g, o + j, none⟩ := by rcases j with _ | j <;> simp [Addr.add]
  rw [ha]
  rcases Nat.mod_two_eq_zero_or_one j with e | e
  · rw [show j / 2 * 2 = j by omega] at a c
    rw [a] at hu
    cases hu
    exact c
  · rw [show j / 2 * 2 + 1 = j by omega] at b
    rw [show o + j / 2 * 2 + 1 = o + j by omega] at d
    rw [b] at hu
    cases hu
    exact d
theorem flat_one (l : List P2) : ∀ u ∈ flat l, u.oneCell' = true := by
  induction l with
  | nil => simp [flat]
  | cons x l ih =>
    intro u hu
    simp only [flat, List.mem_cons] at hu
    rcases hu with rfl | rfl | hu
    · rfl
    · rfl
    · exact ih u hu

theorem below_grown {W0 wq w1 wr : World} {e : TypeId} {v : Value} {n : Nat} {xs : List Value} (hown : wr.ownsRow W0.heap.size e 2 v n xs) (hB : Below W0.heap.size W0 wq) (hg : wq.grownBy w1 v.ownBlock) : Below W0.heap.size W0 w1 := by
  refine hB.grown hg hB.size fun k hk => ?_
  rcases hown.2 with ⟨rfl, _⟩ | ⟨g, cap, cur, rfl, hg, _⟩
  · simp [Value.ownBlock] at hk
  · simp [Value.ownBlock] at hk
    omega
section
variable {P : Program} {w W0 : World}
/-- append to a new empty list -/
theorem step_first {ops : Array Oper} {o : Oper} {a : Act} {K : Act → World → Prop} {Q : Exit → Act → World → Prop} {E : Prop} (hgd : o.guard = none) (s x : Operand) (t : TypeId)
    (ho : o.op = .call { callee := .builtin .append, args := #[s, x], argTypes := #[t, t] })
    (e : TypeId) (i : TypeInfo) (z : Value) (ht : P.underlying t = some (.slice e)) (hi : P.info? e = some i) (hz : i.zero = some z)
    (hsize : i.size = 2) (hby : i.bytes = 16) (hzs : z.cells.size = 2)
    (b : Nat) (hs : a.eval s = .slice (some ⟨b, 0, none⟩) 0 0) (hh : w.heap[b]? = some (.cells #[] e)) (hb : W0.heap.size ≤ b) (hS : Below W0.heap.size W0 w)
    (ad : Addr) (had : ad.block < W0.heap.size) (m c : Nat) (news : List Value) (hx : a.eval x = .slice (some ad) m c) (hl : news.length = m * 2) (hnews : ∀ j u, news[j]? = some u → W0.cell? (ad.add j) = some u) (h1 : ∀ u ∈ news, u.oneCell' = true)
    (h63 : m ≤ 1000000)
    (h : ∀ v' w', w'.ownsRow W0.heap.size e 2 v' m news → Below W0.heap.size W0 w' → (∀ b' o', w.heap[b']? = some o' → b' ≠ b → w'.heap[b']? = some o') → K (a.put o.dst v') w') :
    if Region.wanted o (yielded ops a.tmps) = true then Oper.wp P o a w K Q else E := by
  have hw : Region.wanted o (yielded ops a.tmps) = true := by simp [Region.wanted, hgd]
  rw [if_pos hw]
  have hown : w.ownsRow W0.heap.size e 2 (.slice (some ⟨b, 0, none⟩) 0 0) 0 [] := ⟨rfl, .inr ⟨b, 0, #[], rfl, hb, hh, Nat.le_refl _, by decide, rfl, rfl⟩⟩
  have hadd : ∀ j, (ad.add j).block = ad.block := fun j => by unfold Addr.add; split <;> rfl
  refine wp_append_own w s x t ho W0.heap.size e i z 2 16 ht hi hz hsize hby hzs (by omega) _ 0 [] hs hown ad m c news hx hl (fun j u hj => (hS.cell (by rw [hadd]; exact had)).trans (hnews j u hj)) h1 (by unfold maxLen; omega) (by omega) hS.size ?_
  intro v' w' h2 h3 _
  rw [Nat.zero_add] at h2
  refine h v' w' h2 (below_grown hown hS h3) fun b' o' hb' hne => ?_
  rw [h3.block b' (lt_of_block hb') (by simp [Value.ownBlock]; exact hne)]
  exact hb'
/-- append to what has been gathered -/
theorem step_next {ops : Array Oper} {o : Oper} {a : Act} {K : Act → World → Prop} {Q : Exit → Act → World → Prop} {E : Prop} (hgd : o.guard = none) (s x : Operand) (t : TypeId)
    (ho : o.op = .call { callee := .builtin .append, args := #[s, x], argTypes := #[t, t] })
    (e : TypeId) (i : TypeInfo) (z : Value) (ht : P.underlying t = some (.slice e)) (hi : P.info? e = some i) (hz : i.zero = some z)
    (hsize : i.size = 2) (hby : i.bytes = 16) (hzs : z.cells.size = 2)
    (v : Value) (n : Nat) (xs : List Value) (hs : a.eval s = v) (hown : ∃ wr : World, wr = w ∧ wr.ownsRow W0.heap.size e 2 v n xs) (hS : Below W0.heap.size W0 w)
    (ad : Addr) (m c : Nat) (news : List Value) (hx : a.eval x = .slice (some ad) m c) (hl : news.length = m * 2) (hnews : ∀ j u, news[j]? = some u → w.cell? (ad.add j) = some u) (h1 : ∀ u ∈ news, u.oneCell' = true)
    (h63 : n + m ≤ 2000000)
    (h : ∀ v' w', w'.ownsRow W0.heap.size e 2 v' (n + m) (xs ++ news) → Below W0.heap.size W0 w' → K (a.put o.dst v') w') :
    if Region.wanted o (yielded ops a.tmps) = true then Oper.wp P o a w K Q else E := by
  have hw : Region.wanted o (yielded ops a.tmps) = true := by simp [Region.wanted, hgd]
  rw [if_pos hw]
  obtain ⟨_, rfl, hown⟩ := hown
  refine wp_append_own _ s x t ho W0.heap.size e i z 2 16 ht hi hz hsize hby hzs (by omega) v n xs hs hown ad m c news hx hl hnews h1 (by unfold maxLen; omega) (by omega) hS.size ?_
  exact fun v' w' h2 h3 _ => h v' w' h2 (below_grown hown hS h3)
end

theorem alloc_keep {w : World} {b : Nat} {o x : Obj} (h : w.heap[b]? = some o) : (w.alloc x).heap[b]? = some o := (((Below.refl _ w).alloc (Nat.le_refl _) x).block b (lt_of_block h)).trans h
theorem alloc_at {w : World} {b : Nat} {o : Obj} (h : w.heap.size = b) : (w.alloc o).heap[b]? = some o := by subst h; exact heap_alloc_new w o
end Go.Proofs.YthchkhgimnchcaaGreat
/- The walks of the document's answers for layer 5: Short. -/
namespace Go.Proofs.YthchkhgimnchcaaGreat
open Go.RowKit
attribute [local go_sem ↓] Go.wp_at_zero Go.wp_at_succ

def tot (l : List P2) : Nat := (l.map fun x => x.1.natAbs).sum
theorem tot_cons (x : P2) (l : List P2) : tot (x :: l) = x.1.natAbs + tot l := by simp [tot]
theorem tot_mem {l : List P2} {x : P2} (h : x ∈ l) : x.1.natAbs ≤ tot l := by
  induction l with
  | nil => cases h
  | cons y l ih =>
    rw [tot_cons]
    rcases List.mem_cons.1 h with rfl | h
    · omega
    · have := ih h; omega
theorem mrg_tot {l l' : List P2} (h : mrg1 l = some l') : tot l' ≤ tot l := by
  induction l generalizing l' with
  | nil => simp [mrg1] at h
  | cons x l ih =>
    cases l with
    | nil =>
      unfold mrg1 at h
      split at h
      · cases h; simp [tot]
      · cases h
    | cons y l =>
      unfold mrg1 at h
      split at h
      · cases h; rw [tot_cons x]; omega
      · split at h
        · cases h
          rw [tot_cons, tot_cons, tot_cons]
          have := Int.natAbs_add_le x.1 y.1
          unfold comb
          simp only
          omega
        · cases hm : mrg1 (y :: l) with
          | none => rw [hm] at h; cases h
          | some t =>
            rw [hm] at h
            cases h
            have := ih hm
            rw [tot_cons, tot_cons]
            omega
theorem pln_gd (m : Int × Int) : Gd (pln m) := by
  have := cnt_bd m
  unfold pln
  split
  · exact ⟨.inl rfl, by simp only; omega, by simp only; omega⟩
  · split
    · exact ⟨.inl rfl, by simp only; omega, by simp only; omega⟩
    · split
      · exact ⟨.inr rfl, by simp only; omega, by simp only; omega⟩
      · split
        · exact ⟨.inr rfl, by simp only; omega, by simp only; omega⟩
        · exact ⟨.inl rfl, by simp only; omega, by simp only; omega⟩
theorem own_next {wr wq w w1 : World} {B : Nat} {e : TypeId} {v v' : Value} {l : List (Int × Int)} {x y : Int} {n : Nat} (hown : OwnP wr B e v l) (hn : l.length = n) (hB : Below B w wq) (hz : B ≤ wq.heap.size)
    (h1 : w1.ownsRow B e 2 v' (n + 1) (flat l ++ [.int .i64 x, .int .i64 y])) (h2 : wq.grownBy w1 v.ownBlock) : OwnP w1 B e v' (l ++ [(x, y)]) ∧ Below B w w1 := by
  refine ⟨?_, hown.below hB hz h2⟩
  unfold OwnP
  rw [List.length_append, flat_append, hn]
  exact h1
theorem pln_abs (m : Int × Int) : (pln m).1.natAbs ≤ 1048576 := by
  have := cnt_bd m
  unfold pln
  split
  · simp only; omega
  · split
    · simp only; omega
    · split
      · simp
      · split <;> simp
theorem tot_pln (l : List (Int × Int)) : tot (l.map pln) ≤ l.length * 1048576 := by
  induction l with
  | nil => simp [tot]
  | cons m l ih =>
    rw [List.map_cons, tot_cons, List.length_cons, Nat.add_mul]
    have := pln_abs m
    omega
/-- what stands when nothing is to be done -/
def nrm (l : List (Int × Int)) : List P2 := (nfs (l.map pln)).reverse
/-- the length of a list of values, and whether more is to be done -/
def mleft (v m : Value) : Nat := (match v with | .slice _ n _ => n | _ => 0) + (match m with | .bool true => 1 | _ => 0)
def big (x : P2) : Prop := 1048576 < x.1 ∨ x.1 < -1048576
instance (x : P2) : Decidable (big x) := by unfold big; infer_instance
def outs (l : List P2) : List (Int × Int) := l.flatMap fun x => one1 x.1 x.2
def srt (l : List (Int × Int)) : List (Int × Int) × Int := if ∃ x ∈ nrm l, big x then ([], 15) else (outs (nrm l), 0)
theorem outs_succ (l : List P2) (k : Nat) (h : k < l.length) : outs (l.take (k + 1)) = outs (l.take k) ++ one1 l[k].1 l[k].2 := by
  unfold outs
  rw [List.take_add_one, List.getElem?_eq_getElem h, List.flatMap_append]
  simp
theorem one1_one {x : P2} (hx : Gd x) (h0 : x ≠ (0, 0)) : ∃ m, one1 x.1 x.2 = [m] := by
  obtain ⟨a, b⟩ := x
  obtain ⟨g1, g2, g3⟩ := hx
  simp only at *
  unfold one1
  by_cases h1 : 0 < a
  · rw [if_pos h1]; exact ⟨_, rfl⟩
  · rw [if_neg h1]
    by_cases h2 : a < 0
    · rw [if_pos h2]; exact ⟨_, rfl⟩
    · rw [if_neg h2]
      by_cases h3 : b = 3
      · rw [if_pos h3]; exact ⟨_, rfl⟩
      · rw [if_neg h3]
        have h4 : 0 < b := by
          have : b ≠ 0 := fun e => h0 (by rw [e, show a = 0 by omega])
          omega
        rw [if_pos h4]; exact ⟨_, rfl⟩
theorem Alt.mem {l : List P2} (h : Alt l) {x : P2} (hx : x ∈ l) : Gd x ∧ x ≠ (0, 0) := by
  induction l with
  | nil => cases hx
  | cons y l ih =>
    rcases List.mem_cons.1 hx with rfl | hx
    · exact h.head
    · exact ih h.tail hx

theorem keep_call {w3 q w1 : World} (h : Below w3.heap.size w3 q) (hb : Below q.heap.size q w1) : Below w3.heap.size w3 w1 := h.trans (hb.mono h.size)
theorem own_drew {wr w1 : World} {B : Nat} {e : TypeId} {v : Value} {l : List (Int × Int)} (h : OwnP wr B e v l) (hb : Below wr.drew.heap.size wr.drew w1) : OwnP w1 B e v l := (h.kept (below_drewN (Below.refl _ wr) 1)).kept hb

end Go.Proofs.YthchkhgimnchcaaGreat
/- The walks of package motion: Fix, Do, Then, Back. -/
namespace Go.Proofs.YthchkhgimnchcaaGreat
open Go.RowKit
attribute [local go_sem] store_complex

theorem negone_whole : Fl 13830554455654793216 (-1) := by
  have h := neg_whole one_whole
  have e : Op.negFloat .f64 4607182418800017408 = 13830554455654793216 := by decide +kernel
  rw [e] at h
  exact h
theorem unit_is {k : Nat} (h : k < 4) : (decide (uq k = 1)) = decide (k = 0) := by
  have : k = 0 ∨ k = 1 ∨ k = 2 ∨ k = 3 := by omega
  rcases this with rfl | rfl | rfl | rfl <;> decide

/-- a motion as numbers of the plane: its turn's quarters and its way -/
structure Rk (v : Value) (q : Nat) (x y : Int) : Prop where
  is : ∃ a b c d, v = .agg #[.complex .f64 a b, .complex .f64 c d] ∧ Fl a (uq q) ∧ Fl b (vq q) ∧ Fl c x ∧ Fl d y

end Go.Proofs.YthchkhgimnchcaaGreat
/- The walks of package motion: Fix, Do, Then, Back. -/
namespace Go.Proofs.YthchkhgimnchcaaGreat
open Go.RowKit
attribute [local go_sem] store_complex

theorem fx_lt (n : Int) : (fx n).natAbs < 2 ^ 53 := by have := fx_abs n; omega
theorem rot_lt {q : Nat} {x y : Int} {B : Nat} (hx : x.natAbs ≤ B) (hy : y.natAbs ≤ B) (hB : B < 2 ^ 50) : (rot q x y).1.natAbs < 2 ^ 53 ∧ (rot q x y).2.natAbs < 2 ^ 53 := by
  obtain ⟨h1, h2⟩ := rot_abs q x y B hx hy
  omega

/-- the rest to four quarters -/
theorem unit_rest {q : Nat} (h : q < 4) : uq ((4 - q) % 4) = uq q ∧ vq ((4 - q) % 4) = -vq q := by
  have : q = 0 ∨ q = 1 ∨ q = 2 ∨ q = 3 := by omega
  rcases this with rfl | rfl | rfl | rfl <;> decide

end Go.Proofs.YthchkhgimnchcaaGreat
/- The walks of the document's answers for layer 4. -/
namespace Go.Proofs.YthchkhgimnchcaaGreat
open Go.RowKit
attribute [local go_sem] store_complex

theorem fx_fx (n : Int) : fx (fx n) = fx n := by unfold fx; omega
theorem fx_neg_fx (n : Int) : fx (-fx n) = -fx n := by unfold fx; omega
theorem fx_rot (q : Nat) (x y : Int) : fx (rot q (fx x) (fx y)).1 = (rot q (fx x) (fx y)).1 ∧ fx (rot q (fx x) (fx y)).2 = (rot q (fx x) (fx y)).2 := by
  obtain ⟨h1, h2⟩ := rot_abs q (fx x) (fx y) _ (fx_abs x) (fx_abs y)
  generalize (rot q (fx x) (fx y)).1 = a at *
  generalize (rot q (fx x) (fx y)).2 = b at *
  unfold fx
  omega
theorem qr_qr (n : Int) : qr ((qr n : Nat) : Int) = qr n := by unfold qr; omega

end Go.Proofs.YthchkhgimnchcaaGreat
/- The walks of the document's answers for layer 7: aisles. -/
namespace Go.Proofs.YthchkhgimnchcaaGreat
open Go.RowKit

/-- an aisle -/
structure Ais where
  id : Int
  lx : Int
  ly : Int
  hx : Int
  hy : Int
deriving DecidableEq, Inhabited
def Ais.cs (a : Ais) : List Value := [.int .i64 a.id, .int .i64 a.lx, .int .i64 a.ly, .int .i64 a.hx, .int .i64 a.hy]
theorem Ais.cs_len (a : Ais) : a.cs.length = 5 := rfl
/-- an aisle as a value -/
abbrev av (i a b c d : Int) : Value := .agg #[.int .i64 i, .int .i64 a, .int .i64 b, .int .i64 c, .int .i64 d]
def hasB (a : Ais) (x y : Int) : Bool := decide (a.lx ≤ x ∧ x ≤ a.hx ∧ a.ly ≤ y ∧ y ≤ a.hy)
def meetB (a b : Ais) : Bool := hasB a (max a.lx b.lx) (max a.ly b.ly) && hasB b (max a.lx b.lx) (max a.ly b.ly)

/-- a part as it counts -/
def wd (n : Int) : Int := max (-1000) (min n 1000)
theorem wd_bd (n : Int) : -1000 ≤ wd n ∧ wd n ≤ 1000 := by unfold wd; omega
theorem wd_in {n : Int} (h : -1000 ≤ n ∧ n ≤ 1000) : wd n = n := by unfold wd; omega
/-- one nearer -/
def tw (n t : Int) : Int := if n < t then n + 1 else if t < n then n - 1 else n
end Go.Proofs.YthchkhgimnchcaaGreat
/- The walks of the document's answers for layer 7: which aisle has a point. -/
namespace Go.Proofs.YthchkhgimnchcaaGreat
open Go.RowKit

/-- aisles in memory -/
abbrev AisAt (w : World) (v : Value) (l : List Ais) : Prop := RowsAt w 5 Ais.cs v l
theorem AisAt.spot {w : World} {v : Value} {l : List Ais} (h : AisAt w v l) (k : Nat) (hk : k < l.length) :
    ∃ g o c i a1 a2 b1 b2, l[k] = ⟨i, a1, a2, b1, b2⟩ ∧ v = .slice (some ⟨g, o, none⟩) l.length c ∧ l.length ≤ c ∧ g < w.heap.size ∧
      w.cell? ⟨g, o + k * 5, none⟩ = some (.int .i64 i) ∧ w.cell? ⟨g, o + k * 5 + 1, none⟩ = some (.int .i64 a1) ∧ w.cell? ⟨g, o + k * 5 + 2, none⟩ = some (.int .i64 a2) ∧ w.cell? ⟨g, o + k * 5 + 3, none⟩ = some (.int .i64 b1) ∧ w.cell? ⟨g, o + k * 5 + 4, none⟩ = some (.int .i64 b2) := by
  obtain ⟨g, o, c, e, hc, hg, hx⟩ := RowsAt.spot h k hk
  obtain ⟨⟨i, a1, a2, b1, b2⟩, ha⟩ : ∃ a, l[k] = a := ⟨_, rfl⟩
  rw [ha] at hx
  exact ⟨g, o, c, i, a1, a2, b1, b2, ha, e, hc, hg, hx 0 _ rfl, hx 1 _ rfl, hx 2 _ rfl, hx 3 _ rfl, hx 4 _ rfl⟩
def atL (l : List Ais) (x y : Int) : Int × Bool := match l.find? (fun a => hasB a x y) with
  | some a => (a.id, true)
  | none => (0, false)
theorem atL_hit {l : List Ais} {x y : Int} (k : Nat) (hk : k < l.length) (h : hasB l[k] x y = true) (hn : ∀ i (hi : i < l.length), i < k → hasB l[i] x y = false) : atL l x y = (l[k].id, true) := by
  have : l.find? (fun a => hasB a x y) = some l[k] := by
    rw [List.find?_eq_some_iff_getElem]
    exact ⟨h, k, hk, rfl, fun j hj => by simp [hn j (by omega) hj]⟩
  unfold atL
  rw [this]
theorem atL_none {l : List Ais} {x y : Int} (hn : ∀ i (hi : i < l.length), hasB l[i] x y = false) : atL l x y = (0, false) := by
  have : l.find? (fun a => hasB a x y) = none := by
    rw [List.find?_eq_none]
    intro a ha
    obtain ⟨i, hi, rfl⟩ := List.getElem_of_mem ha
    simp [hn i hi]
  unfold atL
  rw [this]

end Go.Proofs.YthchkhgimnchcaaGreat
/- The walks of the document's answers for layer 7: the way. -/
namespace Go.Proofs.YthchkhgimnchcaaGreat
open Go.RowKit

/-- one step of a way -/
def rst (b : Int × Int) (how : Int) (a : Int × Int) : Int × Int := if a.2 = b.2 ∨ (how ≠ 1 ∧ a.1 ≠ b.1) then (tw a.1 b.1, a.2) else (a.1, tw a.2 b.2)
/-- the k-th point of a way -/
def rit (b : Int × Int) (how : Int) (a : Int × Int) : Nat → Int × Int
  | 0 => a
  | k + 1 => rst b how (rit b how a k)
def gap (a b : Int × Int) : Nat := (a.1 - b.1).natAbs + (a.2 - b.2).natAbs
theorem gap_zero {a b : Int × Int} (h : gap a b = 0) : a = b := by
  unfold gap at h
  exact Prod.ext (by omega) (by omega)
theorem rst_gap {a b : Int × Int} (how : Int) (h : a ≠ b) : gap (rst b how a) b + 1 = gap a b := by
  obtain ⟨a1, a2⟩ := a
  obtain ⟨b1, b2⟩ := b
  have hne : ¬ (a1 = b1 ∧ a2 = b2) := fun ⟨e1, e2⟩ => h (by rw [e1, e2])
  unfold rst gap tw
  simp only
  split
  · simp only
    split
    · omega
    · split <;> omega
  · simp only
    split
    · omega
    · split <;> omega
theorem rit_gap (a b : Int × Int) (how : Int) (k : Nat) (h : k ≤ gap a b) : gap (rit b how a k) b = gap a b - k := by
  induction k with
  | zero => rfl
  | succ k ih =>
    have h0 := ih (by omega)
    have hne : rit b how a k ≠ b := fun e => by
      rw [e] at h0
      have : gap b b = 0 := by unfold gap; omega
      omega
    have := rst_gap how hne
    show gap (rst b how (rit b how a k)) b = _
    omega
/-- the way -/
def rway (a b : Int × Int) (how : Int) : List (Int × Int) := (List.range (gap a b + 1)).map (rit b how a)
theorem rst_bd {a b : Int × Int} {how B : Int} (ha : (-B ≤ a.1 ∧ a.1 ≤ B) ∧ (-B ≤ a.2 ∧ a.2 ≤ B)) (hb : (-B ≤ b.1 ∧ b.1 ≤ B) ∧ (-B ≤ b.2 ∧ b.2 ≤ B)) : (-B ≤ (rst b how a).1 ∧ (rst b how a).1 ≤ B) ∧ (-B ≤ (rst b how a).2 ∧ (rst b how a).2 ≤ B) := by
  unfold rst tw
  split
  · simp only
    split
    · omega
    · split <;> omega
  · simp only
    split
    · omega
    · split <;> omega
theorem rit_bd {a b : Int × Int} {how B : Int} (ha : (-B ≤ a.1 ∧ a.1 ≤ B) ∧ (-B ≤ a.2 ∧ a.2 ≤ B)) (hb : (-B ≤ b.1 ∧ b.1 ≤ B) ∧ (-B ≤ b.2 ∧ b.2 ≤ B)) (k : Nat) : (-B ≤ (rit b how a k).1 ∧ (rit b how a k).1 ≤ B) ∧ (-B ≤ (rit b how a k).2 ∧ (rit b how a k).2 ≤ B) := by
  induction k with
  | zero => exact ha
  | succ k ih => exact rst_bd ih hb
theorem rway_next (f : Nat → Int × Int) (k : Nat) : (List.range (k + 1 + 1)).map f = (List.range (k + 1)).map f ++ [f (k + 1)] := by
  rw [List.range_succ, List.map_append]
  rfl
end Go.Proofs.YthchkhgimnchcaaGreat
/- Fences: plain mathematics. -/
namespace Go.Proofs.YthchkhgimnchcaaGreat

/-! ### Sums -/
def sumN (f : Nat → Int) : Nat → Int
  | 0 => 0
  | k + 1 => sumN f k + f k
theorem sumN_congr {f g : Nat → Int} (n : Nat) (h : ∀ i, i < n → f i = g i) : sumN f n = sumN g n := by
  induction n with
  | zero => rfl
  | succ n ih => rw [sumN, sumN, ih (fun i hi => h i (by omega)), h n (by omega)]
theorem sumN_add (f g : Nat → Int) (n : Nat) : sumN (fun i => f i + g i) n = sumN f n + sumN g n := by
  induction n with
  | zero => rfl
  | succ n ih => simp only [sumN, ih]; omega
theorem sumN_sub (f g : Nat → Int) (n : Nat) : sumN (fun i => f i - g i) n = sumN f n - sumN g n := by
  induction n with
  | zero => rfl
  | succ n ih => simp only [sumN, ih]; omega
theorem sumN_neg (f : Nat → Int) (n : Nat) : sumN (fun i => -f i) n = -sumN f n := by
  induction n with
  | zero => rfl
  | succ n ih => simp only [sumN, ih]; omega
theorem sumN_mul (c : Int) (f : Nat → Int) (n : Nat) : sumN (fun i => c * f i) n = c * sumN f n := by
  induction n with
  | zero => simp [sumN]
  | succ n ih => simp only [sumN, ih, Int.mul_add]
theorem sumN_mulr (c : Int) (f : Nat → Int) (n : Nat) : sumN (fun i => f i * c) n = sumN f n * c := by
  induction n with
  | zero => simp [sumN]
  | succ n ih => simp only [sumN, ih, Int.add_mul]
theorem sumN_zero (n : Nat) : sumN (fun _ => 0) n = 0 := by
  induction n with
  | zero => rfl
  | succ n ih => simp only [sumN, ih]; omega
theorem sumN_swap (f : Nat → Nat → Int) (n m : Nat) : sumN (fun i => sumN (fun j => f i j) m) n = sumN (fun j => sumN (fun i => f i j) n) m := by
  induction n with
  | zero => simp only [sumN]; exact (sumN_zero m).symm
  | succ n ih => simp only [sumN, ih, sumN_add]
theorem sumN_shift (f : Nat → Int) (n : Nat) : sumN f (n + 1) = f 0 + sumN (fun i => f (i + 1)) n := by
  induction n with
  | zero => simp [sumN]
  | succ n ih =>
    have e : sumN f (n + 1 + 1) = sumN f (n + 1) + f (n + 1) := rfl
    rw [e, ih]
    simp only [sumN]
    omega
theorem sumN_rev (f : Nat → Int) (n : Nat) : sumN (fun i => f (n - 1 - i)) n = sumN f n := by
  induction n with
  | zero => rfl
  | succ n ih =>
    rw [sumN_shift]
    have e : sumN f (n + 1) = sumN f n + f n := rfl
    rw [e, ← ih]
    have e2 : sumN (fun i => f (n + 1 - 1 - (i + 1))) n = sumN (fun i => f (n - 1 - i)) n := sumN_congr n fun i hi => by rw [show n + 1 - 1 - (i + 1) = n - 1 - i by omega]
    rw [e2, show n + 1 - 1 - 0 = n by omega]
    omega
/-- how many of these are below p -/
theorem count_below (lo p : Int) (m : Nat) (h1 : lo ≤ p) (h2 : p ≤ lo + m) : sumN (fun j => if lo + (j : Int) < p then 1 else 0) m = p - lo := by
  obtain ⟨d, rfl⟩ : ∃ d : Nat, p = lo + d := ⟨(p - lo).toNat, by omega⟩
  have hd : d ≤ m := by omega
  clear h1 h2
  have key : ∀ m, sumN (fun j => if lo + (j : Int) < lo + (d : Int) then 1 else 0) m = ((min m d : Nat) : Int) := by
    intro m
    induction m with
    | zero => simp [sumN]
    | succ m ih =>
      simp only [sumN, ih]
      split <;> omega
  rw [key]
  omega

/-! ### Rings -/
def pat (l : List (Int × Int)) (i : Nat) : Int × Int := l.getD i (0, 0)
def nxt (l : List (Int × Int)) (i : Nat) : Int × Int := pat l ((i + 1) % l.length)
/-- round the ring nothing is left -/
theorem ring_sum (l : List (Int × Int)) (g : Int × Int → Int) : sumN (fun i => g (nxt l i)) l.length = sumN (fun i => g (pat l i)) l.length := by
  cases h : l.length with
  | zero => rfl
  | succ n =>
    rw [sumN_shift (fun i => g (pat l i)) n]
    have e : sumN (fun i => g (nxt l i)) (n + 1) = sumN (fun i => g (nxt l i)) n + g (nxt l n) := rfl
    rw [e]
    have e1 : sumN (fun i => g (nxt l i)) n = sumN (fun i => g (pat l (i + 1))) n := sumN_congr n fun i hi => by
      show g (pat l ((i + 1) % l.length)) = _
      rw [h, Nat.mod_eq_of_lt (by omega)]
    have e2 : nxt l n = pat l 0 := by
      show pat l ((n + 1) % l.length) = _
      rw [h, Nat.mod_self]
    rw [e1, e2]
    omega
theorem ring_diff (l : List (Int × Int)) (g : Int × Int → Int) : sumN (fun i => g (nxt l i) - g (pat l i)) l.length = 0 := by
  rw [sumN_sub, ring_sum]
  omega

def levF (a b : Int × Int) : Bool := decide (a.2 = b.2) && decide (a.1 ≠ b.1)
def stpF (a b : Int × Int) : Bool := decide (a.1 = b.1) && decide (a.2 ≠ b.2)
def crs (a b : Int × Int) : Int := a.1 * b.2 - a.2 * b.1
def hgt (y : Int) (a : Int × Int) : Int := if y < a.2 then 1 else 0
/-- what an edge adds to a cell -/
def edg (p a b : Int × Int) : Int := if stpF a b = true ∧ p.1 < a.1 ∧ min a.2 b.2 ≤ p.2 ∧ p.2 < max a.2 b.2 then (if a.2 < b.2 then 1 else -1) else 0
def Edge (a b : Int × Int) : Prop := levF a b = true ∨ stpF a b = true
theorem edg_is {a b : Int × Int} (h : Edge a b) (p : Int × Int) : edg p a b = (if p.1 < a.1 then 1 else 0) * (hgt p.2 b - hgt p.2 a) := by
  obtain ⟨a1, a2⟩ := a
  obtain ⟨b1, b2⟩ := b
  obtain ⟨x, y⟩ := p
  unfold Edge levF stpF at h
  simp only [Bool.and_eq_true, decide_eq_true_eq] at h
  unfold edg hgt stpF
  simp only [Bool.and_eq_true, decide_eq_true_eq]
  by_cases h1 : x < a1
  · rw [if_pos h1, Int.one_mul]
    rcases h with ⟨h2, h3⟩ | ⟨h2, h3⟩
    · rw [if_neg (by omega), h2]
      omega
    · split
      · split <;> split <;> split <;> omega
      · split <;> split <;> omega
  · rw [if_neg h1, Int.zero_mul, if_neg (by omega)]
theorem crs_is {a b : Int × Int} (h : Edge a b) : crs a b = 2 * (a.1 * (b.2 - a.2)) - (b.1 * b.2 - a.1 * a.2) := by
  obtain ⟨a1, a2⟩ := a
  obtain ⟨b1, b2⟩ := b
  unfold Edge levF stpF at h
  simp only [Bool.and_eq_true, decide_eq_true_eq] at h
  unfold crs
  simp only
  rcases h with ⟨h2, _⟩ | ⟨h2, _⟩
  · subst h2
    rw [Int.sub_self, Int.mul_zero, Int.mul_zero, Int.mul_comm a2 b1]
    omega
  · subst h2
    rw [Int.mul_sub, Int.mul_comm a2 a1]
    omega
/-- a ring of edges -/
def Ring4 (l : List (Int × Int)) : Prop := ∀ i, i < l.length → Edge (pat l i) (nxt l i)
def area2 (l : List (Int × Int)) : Int := sumN (fun i => crs (pat l i) (nxt l i)) l.length
def cell (l : List (Int × Int)) (p : Int × Int) : Int := sumN (fun i => edg p (pat l i) (nxt l i)) l.length
def sweep (l : List (Int × Int)) : Int := sumN (fun i => (pat l i).1 * ((nxt l i).2 - (pat l i).2)) l.length
theorem area_sweep {l : List (Int × Int)} (h : Ring4 l) : area2 l = 2 * sweep l := by
  unfold area2 sweep
  rw [sumN_congr l.length fun i hi => crs_is (h i hi), sumN_sub, sumN_mul]
  have := ring_diff l fun a => a.1 * a.2
  rw [this]
  omega
theorem cell_is {l : List (Int × Int)} (h : Ring4 l) (p : Int × Int) : cell l p = sumN (fun i => (if p.1 < (pat l i).1 then 1 else 0) * (hgt p.2 (nxt l i) - hgt p.2 (pat l i))) l.length :=
  sumN_congr l.length fun i hi => edg_is (h i hi) p
/-- within what a list of points lies -/
def Within (l : List (Int × Int)) (a b : Int × Int) : Prop := ∀ i, i < l.length → a.1 ≤ (pat l i).1 ∧ (pat l i).1 ≤ b.1 ∧ a.2 ≤ (pat l i).2 ∧ (pat l i).2 ≤ b.2
theorem Within.nxt {l : List (Int × Int)} {a b : Int × Int} (h : Within l a b) (i : Nat) (hi : i < l.length) : a.1 ≤ (nxt l i).1 ∧ (nxt l i).1 ≤ b.1 ∧ a.2 ≤ (nxt l i).2 ∧ (nxt l i).2 ≤ b.2 :=
  h _ (Nat.mod_lt _ (by omega))
/-- no cell beside the box -/
theorem cell_out {l : List (Int × Int)} (h : Ring4 l) {a b p : Int × Int} (hw : Within l a b) (ho : p.1 < a.1 ∨ p.2 < a.2 ∨ b.1 ≤ p.1 ∨ b.2 ≤ p.2) : cell l p = 0 := by
  rw [cell_is h]
  by_cases h1 : p.1 < a.1
  · rw [sumN_congr (g := fun i => hgt p.2 (nxt l i) - hgt p.2 (pat l i)) l.length fun i hi => by rw [if_pos (by have := (hw i hi).1; omega), Int.one_mul]]
    exact ring_diff l (hgt p.2)
  · rw [sumN_congr (g := fun _ => 0) l.length fun i hi => ?_, sumN_zero]
    obtain ⟨e1, e2, e3, e4⟩ := hw i hi
    obtain ⟨f1, f2, f3, f4⟩ := hw.nxt i hi
    rcases ho with h2 | h2 | h2 | h2
    · exact absurd h2 h1
    · rw [show hgt p.2 (nxt l i) = 1 from if_pos (by omega), show hgt p.2 (pat l i) = 1 from if_pos (by omega)]
      omega
    · rw [if_neg (by omega), Int.zero_mul]
    · rw [show hgt p.2 (nxt l i) = 0 from if_neg (by omega), show hgt p.2 (pat l i) = 0 from if_neg (by omega)]
      omega
/-- all cells of the box, together -/
theorem cells_all {l : List (Int × Int)} (h : Ring4 l) {a b : Int × Int} (hw : Within l a b) (m n : Nat) (hm : b.1 = a.1 - 1 + (m : Int) - 1) (hn : b.2 = a.2 - 1 + (n : Int) - 1) :
    sumN (fun x => sumN (fun y => cell l (a.1 - 1 + x, a.2 - 1 + y)) n) m = sweep l := by
  have e1 : ∀ x y : Nat, cell l (a.1 - 1 + x, a.2 - 1 + y) = sumN (fun i => (if a.1 - 1 + (x : Int) < (pat l i).1 then 1 else 0) * (hgt (a.2 - 1 + y) (nxt l i) - hgt (a.2 - 1 + y) (pat l i))) l.length := fun x y => cell_is h _
  have e2 : ∀ x : Nat, sumN (fun y => cell l (a.1 - 1 + x, a.2 - 1 + y)) n = sumN (fun i => (if a.1 - 1 + (x : Int) < (pat l i).1 then 1 else 0) * ((nxt l i).2 - (pat l i).2)) l.length := by
    intro x
    rw [sumN_congr n fun y _ => e1 x y, sumN_swap]
    refine sumN_congr l.length fun i hi => ?_
    obtain ⟨f1, f2, f3, f4⟩ := hw i hi
    obtain ⟨g1, g2, g3, g4⟩ := hw.nxt i hi
    rw [sumN_mul, sumN_sub]
    have c1 := count_below (a.2 - 1) (nxt l i).2 n (by omega) (by omega)
    have c2 := count_below (a.2 - 1) (pat l i).2 n (by omega) (by omega)
    unfold hgt
    rw [c1, c2]
    congr 1
    omega
  rw [sumN_congr m fun x _ => e2 x, sumN_swap]
  have e3 : sumN (fun i => sumN (fun x : Nat => (if a.1 - 1 + (x : Int) < (pat l i).1 then 1 else 0) * ((nxt l i).2 - (pat l i).2)) m) l.length = sumN (fun i => (pat l i).1 * ((nxt l i).2 - (pat l i).2) - (a.1 - 1) * ((nxt l i).2 - (pat l i).2)) l.length := by
    refine sumN_congr l.length fun i hi => ?_
    obtain ⟨f1, f2, f3, f4⟩ := hw i hi
    rw [sumN_mulr, count_below (a.1 - 1) (pat l i).1 m (by omega) (by omega), Int.sub_mul]
  rw [e3, sumN_sub, sumN_mul]
  have := ring_diff l fun a => a.2
  rw [this, Int.mul_zero]
  unfold sweep
  omega
end Go.Proofs.YthchkhgimnchcaaGreat
