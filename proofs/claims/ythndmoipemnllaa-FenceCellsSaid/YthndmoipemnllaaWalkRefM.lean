/- The walks of the document's answers for layer 5: moves put together. -/
import Derived.Test.YthndmoipemnllaaWalkRefS
import Derived.Test.YthndmoipemnllaaWalkMath
import Derived.Test.YthndmoipemnllaaWalkRefR
import Derived.Deep.RegionHeld3
import Derived.Deep.AppendLies
import Derived.Deep.DrawnRows
namespace Go.Proofs.Ythndmoipemnllaa
open Go.RowKit
attribute [local go_sem ↓] Go.wp_at_zero Go.wp_at_succ

theorem mrg_step (l : List P2) (i : Nat) (hi : i < l.length) (h : mrg1 l = (mrg1 (l.drop i)).map (l.take i ++ ·)) :
    (l[i] = (0, 0) → mrg1 l = some (l.take i ++ l.drop (i + 1))) ∧
    (l[i] ≠ (0, 0) → ∀ hj : i + 1 < l.length, sort2 l[i] = sort2 l[i + 1] ∧ l[i + 1] ≠ (0, 0) → mrg1 l = some (l.take i ++ comb l[i] l[i + 1] :: l.drop (i + 2))) ∧
    (l[i] ≠ (0, 0) → (∀ hj : i + 1 < l.length, ¬ (sort2 l[i] = sort2 l[i + 1] ∧ l[i + 1] ≠ (0, 0))) → mrg1 l = (mrg1 (l.drop (i + 1))).map (l.take (i + 1) ++ ·)) := by
  rw [List.drop_eq_getElem_cons hi] at h
  have ht : l.take (i + 1) = l.take i ++ [l[i]] := (List.take_append_getElem hi).symm
  by_cases hj : i + 1 < l.length
  · rw [List.drop_eq_getElem_cons hj] at h
    refine ⟨fun e => ?_, fun e _ e2 => ?_, fun e e2 => ?_⟩
    · rw [h]; unfold mrg1; rw [if_pos e, List.drop_eq_getElem_cons hj]; rfl
    · rw [h]; unfold mrg1; rw [if_neg e, if_pos e2]; rfl
    · rw [h, List.drop_eq_getElem_cons hj]
      conv => lhs; unfold mrg1
      rw [if_neg e, if_neg (e2 hj), ht]
      cases mrg1 (l[i + 1] :: l.drop (i + 1 + 1)) with
      | none => rfl
      | some t => show some (l.take i ++ l[i] :: t) = some (l.take i ++ [l[i]] ++ t); rw [List.append_assoc]; rfl
  · have hd : l.drop (i + 1) = [] := List.drop_eq_nil_of_le (by omega)
    rw [hd] at h ⊢
    refine ⟨fun e => ?_, fun e hj' => absurd hj' hj, fun e _ => ?_⟩
    · rw [h]; unfold mrg1; rw [if_pos e]; rfl
    · rw [h]; unfold mrg1; rw [if_neg e]; rfl

section
variable {P : Program} {w : World}
theorem step_append_own {ops : Array Oper} {o : Oper} {a : Act} {K : Act → World → Prop} {Q : Exit → Act → World → Prop} {E : Prop} (hgd : o.guard = none) (s x : Operand) (t : TypeId)
    (ho : o.op = .call { callee := .builtin .append, args := #[s, x], argTypes := #[t, t] })
    (base : Nat) (e : TypeId) (i : TypeInfo) (z : Value) (size bytes : Nat) (ht : P.underlying t = some (.slice e)) (hi : P.info? e = some i) (hz : i.zero = some z)
    (hsize : i.size = size) (hby : i.bytes = bytes) (hzs : z.cells.size = size) (hsz : 0 < size)
    (v : Value) (n : Nat) (xs : List Value) (hs : a.eval s = v) (hown : w.ownsRow base e size v n xs)
    (ad : Addr) (m c : Nat) (news : List Value) (hx : a.eval x = .slice (some ad) m c) (hl : news.length = m * size) (hnews : ∀ j u, news[j]? = some u → w.cell? (ad.add j) = some u) (h1 : ∀ u ∈ news, u.oneCell' = true)
    (h63 : n + m ≤ maxLen) (hbytes : (n + m) * bytes ≤ 140737488355328) (hbase : base ≤ w.heap.size)
    (h : ∀ v' w', w'.ownsRow base e size v' (n + m) (xs ++ news) → w.grownBy w' v.ownBlock → (v' = .slice none 0 0 ↔ v = .slice none 0 0 ∧ m = 0) → K (a.put o.dst v') w') :
    if Region.wanted o (yielded ops a.tmps) = true then Oper.wp P o a w K Q else E := by
  have hw : Region.wanted o (yielded ops a.tmps) = true := by simp [Region.wanted, hgd]
  rw [if_pos hw]
  exact wp_append_own w s x t ho base e i z size bytes ht hi hz hsize hby hzs hsz v n xs hs hown ad m c news hx hl hnews h1 h63 hbytes hbase h
end
theorem flat_cells {w : World} {g o : Nat} {l : List P2} (h : ∀ j x, l[j]? = some x → w.cell? ⟨g, o + j * 2, none⟩ = some (.int .i64 x.1) ∧ w.cell? ⟨g, o + j * 2 + 1, none⟩ = some (.int .i64 x.2)) :
    ∀ j u, (flat l)[j]? = some u → w.cell? ((⟨g, o, none⟩ : Addr).add j) = some u := by
  intro j u hu
  have hj : j < l.length * 2 := by rw [← flat_length]; exact (List.getElem?_eq_some_iff.1 hu).1
  have hjl : j / 2 < l.length := by omega
  obtain ⟨a, b⟩ := flat_at l (j / 2) _ (List.getElem?_eq_getElem hjl)
  obtain ⟨c, d⟩ := h (j / 2) _ (List.getElem?_eq_getElem hjl)
  have ha : (⟨g, o, none⟩ : Addr).add j = ⟨g, o + j, none⟩ := by rcases j with _ | j <;> simp [Addr.add]
  rw [ha]
  rcases Nat.mod_two_eq_zero_or_one j with e | e
  · rw [show j / 2 * 2 = j by omega] at a c
    rw [a] at hu
    cases hu
    exact c
  · rw [show j / 2 * 2 + 1 = j by omega] at b
    rw [show o + j / 2 * 2 + 1 = o + j by omega] at d
    rw [b] at hu
    cases hu
    exact d
theorem flat_one (l : List P2) : ∀ u ∈ flat l, u.oneCell' = true := by
  induction l with
  | nil => simp [flat]
  | cons x l ih =>
    intro u hu
    simp only [flat, List.mem_cons] at hu
    rcases hu with rfl | rfl | hu
    · rfl
    · rfl
    · exact ih u hu

theorem below_grown {W0 wq w1 wr : World} {e : TypeId} {v : Value} {n : Nat} {xs : List Value} (hown : wr.ownsRow W0.heap.size e 2 v n xs) (hB : Below W0.heap.size W0 wq) (hg : wq.grownBy w1 v.ownBlock) : Below W0.heap.size W0 w1 := by
  refine hB.grown hg hB.size fun k hk => ?_
  rcases hown.2 with ⟨rfl, _⟩ | ⟨g, cap, cur, rfl, hg, _⟩
  · simp [Value.ownBlock] at hk
  · simp [Value.ownBlock] at hk
    omega
section
variable {P : Program} {w W0 : World}
/-- append to a new empty list -/
theorem step_first {ops : Array Oper} {o : Oper} {a : Act} {K : Act → World → Prop} {Q : Exit → Act → World → Prop} {E : Prop} (hgd : o.guard = none) (s x : Operand) (t : TypeId)
    (ho : o.op = .call { callee := .builtin .append, args := #[s, x], argTypes := #[t, t] })
    (e : TypeId) (i : TypeInfo) (z : Value) (ht : P.underlying t = some (.slice e)) (hi : P.info? e = some i) (hz : i.zero = some z)
    (hsize : i.size = 2) (hby : i.bytes = 16) (hzs : z.cells.size = 2)
    (b : Nat) (hs : a.eval s = .slice (some ⟨b, 0, none⟩) 0 0) (hh : w.heap[b]? = some (.cells #[] e)) (hb : W0.heap.size ≤ b) (hS : Below W0.heap.size W0 w)
    (ad : Addr) (had : ad.block < W0.heap.size) (m c : Nat) (news : List Value) (hx : a.eval x = .slice (some ad) m c) (hl : news.length = m * 2) (hnews : ∀ j u, news[j]? = some u → W0.cell? (ad.add j) = some u) (h1 : ∀ u ∈ news, u.oneCell' = true)
    (h63 : m ≤ 1000000)
    (h : ∀ v' w', w'.ownsRow W0.heap.size e 2 v' m news → Below W0.heap.size W0 w' → (∀ b' o', w.heap[b']? = some o' → b' ≠ b → w'.heap[b']? = some o') → K (a.put o.dst v') w') :
    if Region.wanted o (yielded ops a.tmps) = true then Oper.wp P o a w K Q else E := by
  have hw : Region.wanted o (yielded ops a.tmps) = true := by simp [Region.wanted, hgd]
  rw [if_pos hw]
  have hown : w.ownsRow W0.heap.size e 2 (.slice (some ⟨b, 0, none⟩) 0 0) 0 [] := ⟨rfl, .inr ⟨b, 0, #[], rfl, hb, hh, Nat.le_refl _, by decide, rfl, rfl⟩⟩
  have hadd : ∀ j, (ad.add j).block = ad.block := fun j => by unfold Addr.add; split <;> rfl
  refine wp_append_own w s x t ho W0.heap.size e i z 2 16 ht hi hz hsize hby hzs (by omega) _ 0 [] hs hown ad m c news hx hl (fun j u hj => (hS.cell (by rw [hadd]; exact had)).trans (hnews j u hj)) h1 (by unfold maxLen; omega) (by omega) hS.size ?_
  intro v' w' h2 h3 _
  rw [Nat.zero_add] at h2
  refine h v' w' h2 (below_grown hown hS h3) fun b' o' hb' hne => ?_
  rw [h3.block b' (lt_of_block hb') (by simp [Value.ownBlock]; exact hne)]
  exact hb'
/-- append to what has been gathered -/
theorem step_next {ops : Array Oper} {o : Oper} {a : Act} {K : Act → World → Prop} {Q : Exit → Act → World → Prop} {E : Prop} (hgd : o.guard = none) (s x : Operand) (t : TypeId)
    (ho : o.op = .call { callee := .builtin .append, args := #[s, x], argTypes := #[t, t] })
    (e : TypeId) (i : TypeInfo) (z : Value) (ht : P.underlying t = some (.slice e)) (hi : P.info? e = some i) (hz : i.zero = some z)
    (hsize : i.size = 2) (hby : i.bytes = 16) (hzs : z.cells.size = 2)
    (v : Value) (n : Nat) (xs : List Value) (hs : a.eval s = v) (hown : ∃ wr : World, wr = w ∧ wr.ownsRow W0.heap.size e 2 v n xs) (hS : Below W0.heap.size W0 w)
    (ad : Addr) (m c : Nat) (news : List Value) (hx : a.eval x = .slice (some ad) m c) (hl : news.length = m * 2) (hnews : ∀ j u, news[j]? = some u → w.cell? (ad.add j) = some u) (h1 : ∀ u ∈ news, u.oneCell' = true)
    (h63 : n + m ≤ 2000000)
    (h : ∀ v' w', w'.ownsRow W0.heap.size e 2 v' (n + m) (xs ++ news) → Below W0.heap.size W0 w' → K (a.put o.dst v') w') :
    if Region.wanted o (yielded ops a.tmps) = true then Oper.wp P o a w K Q else E := by
  have hw : Region.wanted o (yielded ops a.tmps) = true := by simp [Region.wanted, hgd]
  rw [if_pos hw]
  obtain ⟨_, rfl, hown⟩ := hown
  refine wp_append_own _ s x t ho W0.heap.size e i z 2 16 ht hi hz hsize hby hzs (by omega) v n xs hs hown ad m c news hx hl hnews h1 (by unfold maxLen; omega) (by omega) hS.size ?_
  exact fun v' w' h2 h3 _ => h v' w' h2 (below_grown hown hS h3)
end

theorem alloc_keep {w : World} {b : Nat} {o x : Obj} (h : w.heap[b]? = some o) : (w.alloc x).heap[b]? = some o := (((Below.refl _ w).alloc (Nat.le_refl _) x).block b (lt_of_block h)).trans h
theorem alloc_at {w : World} {b : Nat} {o : Obj} (h : w.heap.size = b) : (w.alloc o).heap[b]? = some o := by subst h; exact heap_alloc_new w o
end Go.Proofs.Ythndmoipemnllaa
