/- Stage 18's program: a ring of 1024 numbers; a gap that is closed. -/
import Derived.Test.YtdoanlemoegikaaFifoLaw
import Derived.Test.YtdoanlemoegikaaMapG
namespace Go.Proofs.Ytdoanlemoegikaa
open Go.RowKit

/-- from place f on the ring has the numbers of l -/
structure RingIs (R : List Int) (f : Nat) (l : List Int) : Prop where
  len : R.length = 1024
  fl : f < 1024
  le : l.length ≤ 1024
  at_ : ∀ k, k < l.length → R[(f + k) % 1024]? = l[k]?
/-- .. but for a gap at j -/
structure GapR (R : List Int) (f : Nat) (U : List Int) (j : Nat) : Prop where
  len : R.length = 1024
  fl : f < 1024
  le : U.length + 1 ≤ 1024
  jl : j ≤ U.length
  at_ : ∀ k, k ≤ U.length → k ≠ j → R[(f + k) % 1024]? = U[if k < j then k else k - 1]?
theorem RingIs.nil {R : List Int} {f : Nat} (h1 : R.length = 1024) (h2 : f < 1024) : RingIs R f [] := ⟨h1, h2, by simp, fun k h => by simp at h⟩
theorem RingIs.put {R : List Int} {f : Nat} {l : List Int} (h : RingIs R f l) (hl : l.length < 1024) (x : Int) : RingIs (R.set ((f + l.length) % 1024) x) f (l ++ [x]) := by
  refine ⟨by rw [List.length_set]; exact h.len, h.fl, by simp; omega, fun k hk => ?_⟩
  rw [List.length_append, List.length_singleton] at hk
  have hf := h.fl
  rw [List.getElem?_set]
  by_cases e : k = l.length
  · subst e
    rw [if_pos rfl, if_pos (by rw [h.len]; omega), List.getElem?_append_right (Nat.le_refl _), Nat.sub_self]
    rfl
  · rw [if_neg (by omega), h.at_ k (by omega), List.getElem?_append_left (by omega)]
theorem GapR.start {R : List Int} {f : Nat} {l : List Int} (h : RingIs R f l) {j : Nat} (hj : j < l.length) : GapR R f (l.eraseIdx j) j := by
  have hl : (l.eraseIdx j).length = l.length - 1 := List.length_eraseIdx_of_lt hj
  have hle := h.le
  refine ⟨h.len, h.fl, by omega, by omega, fun k hk hne => ?_⟩
  rw [h.at_ k (by omega), List.getElem?_eraseIdx]
  by_cases hkj : k < j
  · rw [if_pos hkj, if_pos hkj]
  · rw [if_neg hkj, if_neg (by omega)]
    congr 1
    omega
theorem GapR.step {R : List Int} {f : Nat} {U : List Int} {j : Nat} (h : GapR R f U (j + 1)) {y : Int} (hy : R[(f + j) % 1024]? = some y) : GapR (R.set ((f + (j + 1)) % 1024) y) f U j := by
  have hf := h.fl
  have hle := h.le
  have hj := h.jl
  have h0 := h.at_ j (by omega) (by omega)
  rw [hy, if_pos (by omega)] at h0
  refine ⟨by rw [List.length_set]; exact h.len, h.fl, h.le, by omega, fun k hk hne => ?_⟩
  rw [List.getElem?_set]
  by_cases e : k = j + 1
  · subst e
    rw [if_pos rfl, if_pos (by rw [h.len]; omega), if_neg (by omega), Nat.add_sub_cancel]
    exact h0
  · rw [if_neg (by omega), h.at_ k hk e]
    by_cases hkj : k < j
    · rw [if_pos hkj, if_pos (by omega)]
    · rw [if_neg hkj, if_neg (by omega)]
theorem GapR.stop {R : List Int} {f : Nat} {U : List Int} (h : GapR R f U 0) : RingIs R ((f + 1) % 1024) U := by
  have hf := h.fl
  have hle := h.le
  refine ⟨h.len, by omega, by omega, fun k hk => ?_⟩
  have := h.at_ (k + 1) (by omega) (by omega)
  rw [if_neg (by omega), Nat.add_sub_cancel] at this
  rw [← this]
  congr 1
  omega
theorem drop_erase {l : List Int} (hn : l.Nodup) (x : Int) : l.eraseIdx (l.idxOf x) = dropF l x := by
  rw [← List.erase_eq_eraseIdx_of_idxOf rfl, hn.erase_eq_filter]
  unfold dropF
  congr 1
  funext y
  by_cases h : y = x <;> simp [h]
theorem drop_head {x : Int} {l : List Int} (hn : (x :: l).Nodup) : dropF (x :: l) x = l := by
  rw [← drop_erase hn, List.idxOf_cons_self]
  rfl
theorem drop_none {l : List Int} {x : Int} (h : x ∉ l) : dropF l x = l := List.filter_eq_self.2 fun _ hy => decide_eq_true fun e => h (e ▸ hy)
theorem drop_nodup {l : List Int} (hn : l.Nodup) (x : Int) : (dropF l x).Nodup := hn.filter _
/-- the numbers of a map of bools -/
def setB (l : List Int) : Int → Option Bool := fun x => if x ∈ l then some true else none
theorem setB_in {l : List Int} {x : Int} (h : x ∈ l) : setB l x = some true := if_pos h
theorem setB_not {l : List Int} {x : Int} (h : x ∉ l) : setB l x = none := if_neg h
theorem setB_get (l : List Int) (x : Int) : (setB l x).getD false = inL l x := by
  by_cases h : x ∈ l
  · rw [setB_in h, inL_iff.2 h]; rfl
  · rw [setB_not h, inL_not.2 h]; rfl
theorem setB_put (l : List Int) (x : Int) : updG (setB l) x (some true) = setB (l ++ [x]) := by
  funext k
  unfold updG setB
  by_cases h : k = x
  · subst h; simp
  · simp [h]
theorem setB_del (l : List Int) (x : Int) : updG (setB l) x none = setB (dropF l x) := by
  funext k
  unfold updG setB
  by_cases h : k = x
  · subst h; simp [dropF_mem]
  · simp [h, dropF_mem]

/-- the cells of a queue -/
def qc (R : List Int) (f : Nat) (room : Int) (m : Nat) : List Value := R.map (Value.int .i64) ++ [.int .i64 (f : Int), .int .i64 room, .map (some m)]
section
variable {R : List Int} {f : Nat} {room : Int} {m : Nat}
theorem qc_at {k : Nat} {x : Int} (hx : R[k]? = some x) : (qc R f room m)[k]? = some (.int .i64 x) := by
  have hk : k < R.length := (List.getElem?_eq_some_iff.1 hx).1
  unfold qc
  rw [List.getElem?_append_left (by rw [List.length_map]; exact hk), List.getElem?_map, hx]
  rfl
theorem qc_rest (h : R.length = 1024) (k : Nat) : (qc R f room m)[1024 + k]? = [Value.int .i64 (f : Int), .int .i64 room, .map (some m)][k]? := by
  unfold qc
  rw [List.getElem?_append_right (by rw [List.length_map]; omega), List.length_map, h, Nat.add_sub_cancel_left]
theorem qc_set (h : R.length = 1024) {k : Nat} (hk : k < 1024) (x : Int) : (qc R f room m).set k (.int .i64 x) = qc (R.set k x) f room m := by
  unfold qc
  rw [List.set_append_left _ _ (by rw [List.length_map]; omega), List.map_set]
theorem qc_setf (h : R.length = 1024) (g : Nat) : (qc R f room m).set 1024 (.int .i64 (g : Int)) = qc R g room m := by
  unfold qc
  rw [List.set_append_right _ _ (by rw [List.length_map]; omega), List.length_map, h]
  rfl
end
end Go.Proofs.Ytdoanlemoegikaa
