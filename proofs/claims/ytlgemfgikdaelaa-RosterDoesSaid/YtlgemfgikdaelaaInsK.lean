/- Memory for slices.Insert at structs: copies of things of K cells; a row with one more in its middle. FOR ALL LATER STAGES. -/
import Derived.Test.YtlgemfgikdaelaaOwnO
import Derived.Lib.AppendZerosOnto
import Derived.Lib.Overlaps
import Derived.Laws.Externs
import Derived.Laws.LoneSync
import Derived.Laws.IdiomCopy
namespace Go.Proofs.Ytlgemfgikdaelaa
open Go.RowKit Go.ChangeShapes Go.WideShapes Go.Joins Go.Deep

/-- a copy of things of any number of cells -/
theorem run_copy_k {P : Program} (w : World) (dT sT ty elem : TypeId) (i : TypeInfo) (b o dLen dCap : Nat) (a : Addr) (sLen sCap : Nat) (cs : List Value)
    (hu : P.underlying dT = some (.slice elem)) (hi : P.info? elem = some i) (hn : cs.length = Nat.min sLen dLen * i.size)
    (hsrc : ∀ j v, cs[j]? = some v → w.cell? (a.add j) = some v) (hc : ∀ j, j < cs.length → (w.cell? ⟨b, o + j, none⟩).isSome = true) (hf : ∀ j, j < cs.length → w.frozen? ⟨b, o + j, none⟩ = false) (h1 : ∀ v ∈ cs, v.oneCell' = true) :
    (Builtin.copy_ #[dT, sT] ty #[.slice (some ⟨b, o, none⟩) dLen dCap, .slice (some a) sLen sCap]).run P w = .ok (goInt (Nat.min sLen dLen)) (w.setCells b o cs) := by
  have hl := run_loadCells_list (P := P) w a cs hsrc
  have hst := run_storeCells_cells (P := P) b o cs 0 w (by simpa using hc) (by simpa using hf) h1
  simp [Builtin.copy_, run_underlying hu, Builtin.lenOf, Builtin.firstCells, sizeOf, typeInfo, hi, ← hn, hl, hst]
/-- it as the walk's step, where its run is known -/
theorem wpList_copy_k {P : Program} (w : World) {ops : Array Oper} {rest : List Oper} {o : Oper} {a : Act} {Q : Exit → Act → World → Prop} (hgd : o.guard = none) (d s : Operand) (t t' : TypeId)
    (ho : o.op = .call { callee := .builtin .copy, args := #[d, s], argTypes := #[t, t'] }) (v u : Value) (hd : a.eval d = v) (hs : a.eval s = u) {v' : Value} {w' : World}
    (hr : (Builtin.copy_ #[t, t'] o.type #[v, u]).run P w = .ok v' w') (h : wpList P ops Q rest (a.put o.dst v') w') : wpList P ops Q (o :: rest) a w :=
  wpList_plain hgd fun _ hK => by
    unfold Oper.wp execOp
    simp only [ho, resolve, invoke, builtin, Sem.run_bind, Sem.run_pure, Result.andThen_ok, List.map_toArray, List.map_cons, List.map_nil, hd, hs, hr]
    exact hK _ _ h
/-- .. and as one step of a region that draws -/
theorem step_copy_k {P : Program} {ops : Array Oper} {o : Oper} {a : Act} {w : World} {K : Act → World → Prop} {Q : Exit → Act → World → Prop} {E : Prop}
    (hg : o.guard = none) (d x : Operand) (dT sT : TypeId) (hop : o.op = Op.call { callee := Callee.builtin Builtin.copy, args := #[d, x], argTypes := #[dT, sT] })
    (v u : Value) (hd : a.eval d = v) (hx : a.eval x = u) {v' : Value} {w' : World} (hr : (Builtin.copy_ #[dT, sT] o.type #[v, u]).run P w = .ok v' w') (hK : K (a.put o.dst v') w') :
    if Region.wanted o (yielded ops a.tmps) = true then Oper.wp P o a w K Q else E := by
  have hw : Region.wanted o (yielded ops a.tmps) = true := by simp [Region.wanted, hg]
  rw [if_pos hw]
  unfold Oper.wp
  simp [execOp, hop, resolve, invoke, builtin, hd, hx, hr, Result.andThen]
  exact hK
/-- what a cell of that block holds behind it -/
theorem cell_setCells {W : World} {g p : Nat} {S : List Value} (h : ∀ j, j < S.length → (W.cell? ⟨g, p + j, none⟩).isSome = true) (q : Nat) :
    (W.setCells g p S).cell? ⟨g, q, none⟩ = if p ≤ q ∧ q < p + S.length then S[q - p]? else W.cell? ⟨g, q, none⟩ := by
  split
  · rename_i hq
    have := World.cell?_setCells_in g S p W h (q - p) (by omega)
    rw [show p + (q - p) = q by omega] at this
    rw [this, List.getElem?_eq_getElem (by omega)]
  · exact World.cell?_setCells_out g S p W ⟨g, q, none⟩ fun _ _ => by show q < p ∨ p + S.length ≤ q; omega
theorem isSome_set {W : World} {g p : Nat} {S : List Value} (h : ∀ j, j < S.length → (W.cell? ⟨g, p + j, none⟩).isSome = true) (q : Nat) (hq : (W.cell? ⟨g, q, none⟩).isSome = true) : ((W.setCells g p S).cell? ⟨g, q, none⟩).isSome = true := by
  rw [cell_setCells h]
  split
  · rw [List.getElem?_eq_getElem (by omega)]; rfl
  · exact hq
section
variable {α : Type} {K : Nat} {cs : α → List Value}
theorem flats_cons (x : α) (l : List α) : flats cs (x :: l) = cs x ++ flats cs l := rfl
theorem flats_split (l : List α) (i : Nat) : flats cs l = flats cs (l.take i) ++ flats cs (l.drop i) := by rw [← flats_append, List.take_append_drop]
/-- the cells of a row with one more in its middle -/
theorem ins_at {hK : ∀ x, (cs x).length = K} {l : List α} {i : Nat} (hi : i ≤ l.length) (x : α) (j : Nat) :
    (flats cs (l.take i ++ x :: l.drop i))[j]? = if j < i * K then (flats cs l)[j]? else if j < (i + 1) * K then (cs x)[j - i * K]? else (flats cs (l.drop i))[j - (i + 1) * K]? := by
  have ha : (flats cs (l.take i)).length = i * K := by rw [flats_length hK, List.length_take, Nat.min_eq_left hi]
  have hx := hK x
  rw [flats_append, flats_cons]
  have e1 : (i + 1) * K = i * K + K := by rw [Nat.add_mul]; omega
  split
  · rename_i h
    rw [List.getElem?_append_left (by omega), flats_split l i, List.getElem?_append_left (by omega)]
  · rename_i h
    rw [List.getElem?_append_right (by omega), ha]
    split
    · rename_i h2
      rw [List.getElem?_append_left (by omega)]
    · rename_i h2
      rw [List.getElem?_append_right (by omega), hx]
      congr 1
      omega
/-- .. lies where both copies went, the rest first -/
theorem own_ins_rest {hK : ∀ x, (cs x).length = K} {W : World} {g o c : Nat} {l : List α} {i : Nat} (hi : i ≤ l.length) (x : α) (hg : g < W.heap.size) (hc : l.length + 1 ≤ c) (hm : c ≤ maxLen)
    (h1 : ∀ j, j < i * K → W.cell? ⟨g, o + j, none⟩ = (flats cs l)[j]?) (h2 : ∀ j, j < c * K → (W.cell? ⟨g, o + j, none⟩).isSome = true ∧ W.frozen? ⟨g, o + j, none⟩ = false) :
    OwnO ((W.setCells g (o + (i + 1) * K) (flats cs (l.drop i))).setCells g (o + i * K) (cs x)) K cs (.slice (some ⟨g, o, none⟩) (l.length + 1) c) (l.take i ++ x :: l.drop i) := by
  have hd : (flats cs (l.drop i)).length = (l.length - i) * K := by rw [flats_length hK, List.length_drop]
  have hx := hK x
  have e1 : (i + 1) * K = i * K + K := by rw [Nat.add_mul]; omega
  have e2 : (l.length + 1) * K = l.length * K + K := by rw [Nat.add_mul]; omega
  have e3 : (l.length - i) * K = l.length * K - i * K := Nat.sub_mul ..
  have e4 : i * K ≤ l.length * K := Nat.mul_le_mul_right _ hi
  have e5 : (l.length + 1) * K ≤ c * K := Nat.mul_le_mul_right _ hc
  have s1 : ∀ j, j < (flats cs (l.drop i)).length → (W.cell? ⟨g, o + (i + 1) * K + j, none⟩).isSome = true := fun j hj => by rw [Nat.add_assoc]; exact (h2 _ (by omega)).1
  have s2 : ∀ j, j < (cs x).length → ((W.setCells g (o + (i + 1) * K) (flats cs (l.drop i))).cell? ⟨g, o + i * K + j, none⟩).isSome = true := fun j hj => isSome_set s1 _ (by rw [Nat.add_assoc]; exact (h2 _ (by omega)).1)
  have hlen : (l.take i ++ x :: l.drop i).length = l.length + 1 := by rw [List.length_append, List.length_take, List.length_cons, List.length_drop]; omega
  refine .inr ⟨g, o, c, by rw [hlen], by rw [size_setCells, size_setCells]; exact hg, by rw [hlen]; exact hc, hm, fun j hj => ?_, fun j hj => ⟨?_, ?_⟩⟩
  · rw [hlen] at hj
    rw [ins_at (hK := hK) hi, cell_setCells s2, cell_setCells s1]
    by_cases q1 : j < i * K
    · rw [if_pos q1, if_neg (by omega), if_neg (by omega)]
      exact h1 j q1
    · rw [if_neg q1]
      by_cases q2 : j < (i + 1) * K
      · rw [if_pos q2, if_pos (by omega)]
        congr 1
        omega
      · rw [if_neg q2, if_neg (by omega), if_pos (by omega)]
        congr 1
        omega
  · exact isSome_set s2 _ (isSome_set s1 _ (h2 j hj).1)
  · rw [World.frozen?_setCells, World.frozen?_setCells]
    exact (h2 j hj).2
/-- .. the new one first -/
theorem own_ins_new {hK : ∀ x, (cs x).length = K} {W : World} {g o c : Nat} {l : List α} {i : Nat} (hi : i ≤ l.length) (x : α) (hg : g < W.heap.size) (hc : l.length + 1 ≤ c) (hm : c ≤ maxLen)
    (h1 : ∀ j, j < i * K → W.cell? ⟨g, o + j, none⟩ = (flats cs l)[j]?) (h2 : ∀ j, j < c * K → (W.cell? ⟨g, o + j, none⟩).isSome = true ∧ W.frozen? ⟨g, o + j, none⟩ = false) :
    OwnO ((W.setCells g (o + i * K) (cs x)).setCells g (o + (i + 1) * K) (flats cs (l.drop i))) K cs (.slice (some ⟨g, o, none⟩) (l.length + 1) c) (l.take i ++ x :: l.drop i) := by
  have hd : (flats cs (l.drop i)).length = (l.length - i) * K := by rw [flats_length hK, List.length_drop]
  have hx := hK x
  have e1 : (i + 1) * K = i * K + K := by rw [Nat.add_mul]; omega
  have e2 : (l.length + 1) * K = l.length * K + K := by rw [Nat.add_mul]; omega
  have e3 : (l.length - i) * K = l.length * K - i * K := Nat.sub_mul ..
  have e4 : i * K ≤ l.length * K := Nat.mul_le_mul_right _ hi
  have e5 : (l.length + 1) * K ≤ c * K := Nat.mul_le_mul_right _ hc
  have s1 : ∀ j, j < (cs x).length → (W.cell? ⟨g, o + i * K + j, none⟩).isSome = true := fun j hj => by rw [Nat.add_assoc]; exact (h2 _ (by omega)).1
  have s2 : ∀ j, j < (flats cs (l.drop i)).length → ((W.setCells g (o + i * K) (cs x)).cell? ⟨g, o + (i + 1) * K + j, none⟩).isSome = true := fun j hj => isSome_set s1 _ (by rw [Nat.add_assoc]; exact (h2 _ (by omega)).1)
  have hlen : (l.take i ++ x :: l.drop i).length = l.length + 1 := by rw [List.length_append, List.length_take, List.length_cons, List.length_drop]; omega
  refine .inr ⟨g, o, c, by rw [hlen], by rw [size_setCells, size_setCells]; exact hg, by rw [hlen]; exact hc, hm, fun j hj => ?_, fun j hj => ⟨?_, ?_⟩⟩
  · rw [hlen] at hj
    rw [ins_at (hK := hK) hi, cell_setCells s2, cell_setCells s1]
    by_cases q1 : j < i * K
    · rw [if_pos q1, if_neg (by omega), if_neg (by omega)]
      exact h1 j q1
    · rw [if_neg q1]
      by_cases q2 : j < (i + 1) * K
      · rw [if_pos q2, if_neg (by omega), if_pos (by omega)]
        congr 1
        omega
      · rw [if_neg q2, if_pos (by omega)]
        congr 1
        omega
  · exact isSome_set s2 _ (isSome_set s1 _ (h2 j hj).1)
  · rw [World.frozen?_setCells, World.frozen?_setCells]
    exact (h2 j hj).2
end
end Go.Proofs.Ytlgemfgikdaelaa
