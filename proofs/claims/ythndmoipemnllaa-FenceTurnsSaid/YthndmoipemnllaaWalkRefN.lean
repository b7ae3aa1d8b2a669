/- The walks of the document's answers for layer 5: Short. -/
import Derived.Test.YthndmoipemnllaaWalkRefM
namespace Go.Proofs.Ythndmoipemnllaa
open Go.RowKit
attribute [local go_sem ↓] Go.wp_at_zero Go.wp_at_succ

def tot (l : List P2) : Nat := (l.map fun x => x.1.natAbs).sum
theorem tot_cons (x : P2) (l : List P2) : tot (x :: l) = x.1.natAbs + tot l := by simp [tot]
theorem tot_mem {l : List P2} {x : P2} (h : x ∈ l) : x.1.natAbs ≤ tot l := by
  induction l with
  | nil => cases h
  | cons y l ih =>
    rw [tot_cons]
    rcases List.mem_cons.1 h with rfl | h
    · omega
    · have := ih h; omega
theorem mrg_tot {l l' : List P2} (h : mrg1 l = some l') : tot l' ≤ tot l := by
  induction l generalizing l' with
  | nil => simp [mrg1] at h
  | cons x l ih =>
    cases l with
    | nil =>
      unfold mrg1 at h
      split at h
      · cases h; simp [tot]
      · cases h
    | cons y l =>
      unfold mrg1 at h
      split at h
      · cases h; rw [tot_cons x]; omega
      · split at h
        · cases h
          rw [tot_cons, tot_cons, tot_cons]
          have := Int.natAbs_add_le x.1 y.1
          unfold comb
          simp only
          omega
        · cases hm : mrg1 (y :: l) with
          | none => rw [hm] at h; cases h
          | some t =>
            rw [hm] at h
            cases h
            have := ih hm
            rw [tot_cons, tot_cons]
            omega
theorem pln_gd (m : Int × Int) : Gd (pln m) := by
  have := cnt_bd m
  unfold pln
  split
  · exact ⟨.inl rfl, by simp only; omega, by simp only; omega⟩
  · split
    · exact ⟨.inl rfl, by simp only; omega, by simp only; omega⟩
    · split
      · exact ⟨.inr rfl, by simp only; omega, by simp only; omega⟩
      · split
        · exact ⟨.inr rfl, by simp only; omega, by simp only; omega⟩
        · exact ⟨.inl rfl, by simp only; omega, by simp only; omega⟩
theorem own_next {wr wq w w1 : World} {B : Nat} {e : TypeId} {v v' : Value} {l : List (Int × Int)} {x y : Int} {n : Nat} (hown : OwnP wr B e v l) (hn : l.length = n) (hB : Below B w wq) (hz : B ≤ wq.heap.size)
    (h1 : w1.ownsRow B e 2 v' (n + 1) (flat l ++ [.int .i64 x, .int .i64 y])) (h2 : wq.grownBy w1 v.ownBlock) : OwnP w1 B e v' (l ++ [(x, y)]) ∧ Below B w w1 := by
  refine ⟨?_, hown.below hB hz h2⟩
  unfold OwnP
  rw [List.length_append, flat_append, hn]
  exact h1
theorem pln_abs (m : Int × Int) : (pln m).1.natAbs ≤ 1048576 := by
  have := cnt_bd m
  unfold pln
  split
  · simp only; omega
  · split
    · simp only; omega
    · split
      · simp
      · split <;> simp
theorem tot_pln (l : List (Int × Int)) : tot (l.map pln) ≤ l.length * 1048576 := by
  induction l with
  | nil => simp [tot]
  | cons m l ih =>
    rw [List.map_cons, tot_cons, List.length_cons, Nat.add_mul]
    have := pln_abs m
    omega
/-- what stands when nothing is to be done -/
def nrm (l : List (Int × Int)) : List P2 := (nfs (l.map pln)).reverse
/-- the length of a list of values, and whether more is to be done -/
def mleft (v m : Value) : Nat := (match v with | .slice _ n _ => n | _ => 0) + (match m with | .bool true => 1 | _ => 0)
def big (x : P2) : Prop := 1048576 < x.1 ∨ x.1 < -1048576
instance (x : P2) : Decidable (big x) := by unfold big; infer_instance
def outs (l : List P2) : List (Int × Int) := l.flatMap fun x => one1 x.1 x.2
def srt (l : List (Int × Int)) : List (Int × Int) × Int := if ∃ x ∈ nrm l, big x then ([], 15) else (outs (nrm l), 0)
theorem outs_succ (l : List P2) (k : Nat) (h : k < l.length) : outs (l.take (k + 1)) = outs (l.take k) ++ one1 l[k].1 l[k].2 := by
  unfold outs
  rw [List.take_add_one, List.getElem?_eq_getElem h, List.flatMap_append]
  simp
theorem one1_one {x : P2} (hx : Gd x) (h0 : x ≠ (0, 0)) : ∃ m, one1 x.1 x.2 = [m] := by
  obtain ⟨a, b⟩ := x
  obtain ⟨g1, g2, g3⟩ := hx
  simp only at *
  unfold one1
  by_cases h1 : 0 < a
  · rw [if_pos h1]; exact ⟨_, rfl⟩
  · rw [if_neg h1]
    by_cases h2 : a < 0
    · rw [if_pos h2]; exact ⟨_, rfl⟩
    · rw [if_neg h2]
      by_cases h3 : b = 3
      · rw [if_pos h3]; exact ⟨_, rfl⟩
      · rw [if_neg h3]
        have h4 : 0 < b := by
          have : b ≠ 0 := fun e => h0 (by rw [e, show a = 0 by omega])
          omega
        rw [if_pos h4]; exact ⟨_, rfl⟩
theorem Alt.mem {l : List P2} (h : Alt l) {x : P2} (hx : x ∈ l) : Gd x ∧ x ≠ (0, 0) := by
  induction l with
  | nil => cases hx
  | cons y l ih =>
    rcases List.mem_cons.1 hx with rfl | hx
    · exact h.head
    · exact ih h.tail hx

theorem keep_call {w3 q w1 : World} (h : Below w3.heap.size w3 q) (hb : Below q.heap.size q w1) : Below w3.heap.size w3 w1 := h.trans (hb.mono h.size)
theorem own_drew {wr w1 : World} {B : Nat} {e : TypeId} {v : Value} {l : List (Int × Int)} (h : OwnP wr B e v l) (hb : Below wr.drew.heap.size wr.drew w1) : OwnP w1 B e v l := (h.kept (below_drewN (Below.refl _ wr) 1)).kept hb

end Go.Proofs.Ythndmoipemnllaa
