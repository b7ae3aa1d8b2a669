/- The walks of the document's answers for layer 5: each point that a walk comes to. -/
import Derived.Test.YthndmoipemnllaaWalkRefC
namespace Go.Proofs.Ythndmoipemnllaa
open Go.RowKit

/-- a row of steps from a point on -/
def tline (x y dx dy : Int) : Nat → List (Int × Int)
  | 0 => []
  | n + 1 => tline x y dx dy n ++ [(x + ((n : Int) + 1) * dx, y + ((n : Int) + 1) * dy)]
theorem tline_length (x y dx dy : Int) (n : Nat) : (tline x y dx dy n).length = n := by
  induction n with
  | zero => rfl
  | succ n ih => simp [tline, ih]
/-- what a move adds to the points -/
def tadd (s : Int × Int × Int) (m : Int × Int) : List (Int × Int) :=
  if m.1 = 1 then tline s.2.1 s.2.2 (uq (s.1 % 4).toNat) (vq (s.1 % 4).toNat) (cnt m).toNat
  else if m.1 = 2 then tline s.2.1 s.2.2 (-uq (s.1 % 4).toNat) (-vq (s.1 % 4).toNat) (cnt m).toNat
  else []
/-- the points of a walk -/
def tpts : List (Int × Int) → (Int × Int × Int) → List (Int × Int)
  | [], _ => []
  | m :: l, s => tadd s m ++ tpts l (estep s m)
theorem tpts_append (a b : List (Int × Int)) (s : Int × Int × Int) : tpts (a ++ b) s = tpts a s ++ tpts b (a.foldl estep s) := by
  induction a generalizing s with
  | nil => rfl
  | cons m a ih => simp [tpts, ih]
theorem tpts_succ (l : List (Int × Int)) (k : Nat) (h : k < l.length) : tpts (l.take (k + 1)) (0, 0, 0) = tpts (l.take k) (0, 0, 0) ++ tadd (eend (l.take k)) l[k] := by
  rw [List.take_add_one, List.getElem?_eq_getElem h, tpts_append]
  simp [tpts, eend]
theorem tadd_length (s : Int × Int × Int) (m : Int × Int) : ((tadd s m).length : Int) = if m.1 = 1 ∨ m.1 = 2 then cnt m else 0 := by
  have := cnt_bd m
  unfold tadd
  split
  · rw [tline_length, if_pos (by omega)]; omega
  · split
    · rw [tline_length, if_pos (by omega)]; omega
    · rw [if_neg (by omega)]; rfl
theorem tpts_length (l : List (Int × Int)) (s : Int × Int × Int) : ((tpts l s).length : Int) = stps l := by
  induction l generalizing s with
  | nil => rfl
  | cons m l ih => simp only [tpts, List.length_append, stps, Int.natCast_add, ih, tadd_length]

theorem OwnP.kept {w w1 : World} {B : Nat} {e : TypeId} {v : Value} {l : List (Int × Int)} (h : OwnP w B e v l) (hb : Below w.heap.size w w1) : OwnP w1 B e v l := by
  refine ⟨h.1, ?_⟩
  rcases h.2 with h0 | ⟨g, cap, cur, rfl, hg, hh, rest⟩
  · exact .inl h0
  · exact .inr ⟨g, cap, cur, rfl, hg, (hb.block g (lt_of_block hh)).trans hh, rest⟩
theorem OwnP.away {w : World} {B : Nat} {e : TypeId} {v : Value} {l : List (Int × Int)} (h : OwnP w B e v l) (p : Addr) (u : Value) (hne : v.ownBlock ≠ some p.block) : OwnP (w.setCell p u) B e v l := by
  refine ⟨h.1, ?_⟩
  rcases h.2 with h0 | ⟨g, cap, cur, rfl, hg, hh, rest⟩
  · exact .inl h0
  · refine .inr ⟨g, cap, cur, rfl, hg, ?_, rest⟩
    have hgp : g ≠ p.block := fun e => hne (by simp [Value.ownBlock, e])
    rw [Below.heap_setCell w p u g (by intro e; exact hgp e)]
    exact hh
/-- a list of two or more lies in no block of two cells -/
theorem OwnP.other {w : World} {B : Nat} {e : TypeId} {v : Value} {l : List (Int × Int)} (h : OwnP w B e v l) (hl : 2 ≤ l.length) {b : Nat} {x y : Value} {t : TypeId} (hb : w.heap[b]? = some (.cells #[x, y] t)) : v.ownBlock ≠ some b := by
  rcases h.2 with ⟨rfl, h0⟩ | ⟨g, cap, cur, rfl, hg, hh, hnc, hcp, hcs, _⟩
  · simp [Value.ownBlock]
  · intro e
    simp [Value.ownBlock] at e
    subst e
    rw [hb] at hh
    simp only [Option.some.injEq, Obj.cells.injEq] at hh
    have h2 : cur.size = 2 := by rw [← hh.1]; rfl
    omega
theorem OwnP.keeps {w w1 : World} {B : Nat} {e : TypeId} {v : Value} {l : List (Int × Int)} (_h : OwnP w B e v l) {wq : World} (hg : wq.grownBy w1 v.ownBlock) {b : Nat} {o : Obj} (hb : wq.heap[b]? = some o) (hne : v.ownBlock ≠ some b) : w1.heap[b]? = some o := by
  have hlt : b < wq.heap.size := lt_of_block hb
  rw [hg.block b hlt (fun e => hne e.symm)]
  exact hb

theorem heap2_set {w : World} {b : Nat} {x y : Value} {t : TypeId} (h : w.heap[b]? = some (.cells #[x, y] t)) (x' y' : Value) : ((w.setCell ⟨b, 0, none⟩ x').setCell ⟨b, 1, none⟩ y').heap[b]? = some (.cells #[x', y'] t) := by
  unfold World.setCell
  simp only [Array.getElem?_modify, if_pos, h, Option.map_some]
  rfl
theorem own_one (w : World) (B : Nat) (hB : B ≤ w.heap.size) (e : TypeId) (x y : Int) : OwnP (w.alloc (.cells #[.int .i64 x, .int .i64 y] e)) B e (.slice (some ⟨w.heap.size, 0, none⟩) 1 1) [(x, y)] :=
  ⟨rfl, .inr ⟨w.heap.size, 1, #[.int .i64 x, .int .i64 y], rfl, hB, heap_alloc_new w _, Nat.le_refl _, by decide, rfl, rfl⟩⟩
theorem info_point : (Try.prog.info? 23).map (fun i => (i.zero, i.size, i.bytes)) = some (some (.agg #[.int .i64 0, .int .i64 0]), 2, 16) := by kernel_rfl

theorem lin_on (X u : Int) (j : Nat) : X + j * u + 1 * u = X + ((j + 1 : Nat) : Int) * u := by rw [Int.natCast_add, Int.add_mul]; omega
theorem lin_back (X u : Int) (j : Nat) : X + j * -u + -1 * u = X + ((j + 1 : Nat) : Int) * -u := by rw [Int.natCast_add, Int.add_mul]; omega
theorem lin_bd {X u : Int} {j : Nat} (hX : X.natAbs ≤ 300 * 1048576) (hj : j ≤ 1048576) (hu : u.natAbs ≤ 1) : (X + j * u).natAbs ≤ 1000000000000 := by
  have h : ((j : Int) * u).natAbs ≤ 1048576 * 1 := mul_bd (by omega) hu
  omega
theorem own_fin {wr wq w w1 : World} {B : Nat} {e t : TypeId} {v v' : Value} {l : List (Int × Int)} {x y : Int} {b : Nat} {X Y : Value} {A : Obj} (hown : OwnP wr B e v l) (hB : Below B w (wq.alloc A)) (hz : B ≤ (wq.alloc A).heap.size)
    (h1 : w1.ownsRow B e 2 v' (l.length + 1) (flat l ++ [.int .i64 x, .int .i64 y])) (h2 : (wq.alloc A).grownBy w1 v.ownBlock) (hb : wq.heap[b]? = some (.cells #[X, Y] t)) (hne : v.ownBlock ≠ some b) (hl : 1 ≤ l.length) :
    OwnP w1 B e v' (l ++ [(x, y)]) ∧ Below B w w1 ∧ w1.heap[b]? = some (.cells #[X, Y] t) ∧ v'.ownBlock ≠ some b := by
  have o : OwnP w1 B e v' (l ++ [(x, y)]) := by
    unfold OwnP
    rw [List.length_append, flat_append]
    exact h1
  have hh : w1.heap[b]? = some (.cells #[X, Y] t) := hown.keeps h2 ((((Below.refl _ wq).alloc (Nat.le_refl _) A).block b (lt_of_block hb)).trans hb) hne
  exact ⟨o, hown.below hB hz h2, hh, o.other (by rw [List.length_append]; simp; omega) hh⟩

theorem cells_new (w : World) (N : Nat) (hN : w.heap.size = N) (a b : Value) (t : TypeId) : ∀ (j : Nat) (u : Value), [a, b][j]? = some u → (w.alloc (.cells #[a, b] t)).cell? ((⟨N, 0, none⟩ : Addr).add j) = some u := by
  subst hN
  intro j u h
  match j, h with
  | 0, h => simp at h; subst h; simp [Addr.add]
  | 1, h => simp at h; subst h; simp [Addr.add]

/-- what Trace hands back -/
def trc (l : List (Int × Int)) : List (Int × Int) × Int := if 10000 < stps l then ([], 15) else ((0, 0) :: tpts l (0, 0, 0), 0)

end Go.Proofs.Ythndmoipemnllaa
