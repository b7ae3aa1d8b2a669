/- The walks of the document's answers for layer 5: moves put together. -/
import Derived.Test.YtibeljppjaenbaaWalkRefS
import Derived.Test.YtibeljppjaenbaaWalkMath
import Derived.Test.YtibeljppjaenbaaWalkRefR
import Derived.Deep.RegionHeld3
import Derived.Deep.AppendLies
import Derived.Deep.DrawnRows
namespace Go.Proofs.Ytibeljppjaenbaa
open Go.RowKit
attribute [local go_sem ↓] Go.wp_at_zero Go.wp_at_succ

theorem info_pair : (Try.prog.info? 86).map (fun i => (i.zero, i.size, i.bytes)) = some (some (.agg #[.int .i64 0, .int .i64 0]), 2, 16) := by kernel_rfl
theorem mrg_step (l : List P2) (i : Nat) (hi : i < l.length) (h : mrg1 l = (mrg1 (l.drop i)).map (l.take i ++ ·)) :
    (l[i] = (0, 0) → mrg1 l = some (l.take i ++ l.drop (i + 1))) ∧
    (l[i] ≠ (0, 0) → ∀ hj : i + 1 < l.length, sort2 l[i] = sort2 l[i + 1] ∧ l[i + 1] ≠ (0, 0) → mrg1 l = some (l.take i ++ comb l[i] l[i + 1] :: l.drop (i + 2))) ∧
    (l[i] ≠ (0, 0) → (∀ hj : i + 1 < l.length, ¬ (sort2 l[i] = sort2 l[i + 1] ∧ l[i + 1] ≠ (0, 0))) → mrg1 l = (mrg1 (l.drop (i + 1))).map (l.take (i + 1) ++ ·)) := by
  rw [List.drop_eq_getElem_cons hi] at h
  have ht : l.take (i + 1) = l.take i ++ [l[i]] := (List.take_append_getElem hi).symm
  by_cases hj : i + 1 < l.length
  · rw [List.drop_eq_getElem_cons hj] at h
    refine ⟨fun e => ?_, fun e _ e2 => ?_, fun e e2 => ?_⟩
    · rw [h]; unfold mrg1; rw [if_pos e, List.drop_eq_getElem_cons hj]; rfl
    · rw [h]; unfold mrg1; rw [if_neg e, if_pos e2]; rfl
    · rw [h, List.drop_eq_getElem_cons hj]
      conv => lhs; unfold mrg1
      rw [if_neg e, if_neg (e2 hj), ht]
      cases mrg1 (l[i + 1] :: l.drop (i + 1 + 1)) with
      | none => rfl
      | some t => show some (l.take i ++ l[i] :: t) = some (l.take i ++ [l[i]] ++ t); rw [List.append_assoc]; rfl
  · have hd : l.drop (i + 1) = [] := List.drop_eq_nil_of_le (by omega)
    rw [hd] at h ⊢
    refine ⟨fun e => ?_, fun e hj' => absurd hj' hj, fun e _ => ?_⟩
    · rw [h]; unfold mrg1; rw [if_pos e]; rfl
    · rw [h]; unfold mrg1; rw [if_neg e]; rfl

section
variable {P : Program} {w : World}
theorem step_append_own {ops : Array Oper} {o : Oper} {a : Act} {K : Act → World → Prop} {Q : Exit → Act → World → Prop} {E : Prop} (hgd : o.guard = none) (s x : Operand) (t : TypeId)
    (ho : o.op = .call { callee := .builtin .append, args := #[s, x], argTypes := #[t, t] })
    (base : Nat) (e : TypeId) (i : TypeInfo) (z : Value) (size bytes : Nat) (ht : P.underlying t = some (.slice e)) (hi : P.info? e = some i) (hz : i.zero = some z)
    (hsize : i.size = size) (hby : i.bytes = bytes) (hzs : z.cells.size = size) (hsz : 0 < size)
    (v : Value) (n : Nat) (xs : List Value) (hs : a.eval s = v) (hown : w.ownsRow base e size v n xs)
    (ad : Addr) (m c : Nat) (news : List Value) (hx : a.eval x = .slice (some ad) m c) (hl : news.length = m * size) (hnews : ∀ j u, news[j]? = some u → w.cell? (ad.add j) = some u) (h1 : ∀ u ∈ news, u.oneCell' = true)
    (h63 : n + m ≤ maxLen) (hbytes : (n + m) * bytes ≤ 140737488355328) (hbase : base ≤ w.heap.size)
    (h : ∀ v' w', w'.ownsRow base e size v' (n + m) (xs ++ news) → w.grownBy w' v.ownBlock → (v' = .slice none 0 0 ↔ v = .slice none 0 0 ∧ m = 0) → K (a.put o.dst v') w') :
    if Region.wanted o (yielded ops a.tmps) = true then Oper.wp P o a w K Q else E := by
  have hw : Region.wanted o (yielded ops a.tmps) = true := by simp [Region.wanted, hgd]
  rw [if_pos hw]
  exact wp_append_own w s x t ho base e i z size bytes ht hi hz hsize hby hzs hsz v n xs hs hown ad m c news hx hl hnews h1 h63 hbytes hbase h
end
theorem flat_cells {w : World} {g o : Nat} {l : List P2} (h : ∀ j x, l[j]? = some x → w.cell? ⟨g, o + j * 2, none⟩ = some (.int .i64 x.1) ∧ w.cell? ⟨g, o + j * 2 + 1, none⟩ = some (.int .i64 x.2)) :
    ∀ j u, (flat l)[j]? = some u → w.cell? ((⟨g, o, none⟩ : Addr).add j) = some u := by
  intro j u hu
  have hj : j < l.length * 2 := by rw [← flat_length]; exact (List.getElem?_eq_some_iff.1 hu).1
  have hjl : j / 2 < l.length := by omega
  obtain ⟨a, b⟩ := flat_at l (j / 2) _ (List.getElem?_eq_getElem hjl)
  obtain ⟨c, d⟩ := h (j / 2) _ (List.getElem?_eq_getElem hjl)
  have ha : (⟨g, o, none⟩ : Addr).add j = ⟨g, o + j, none⟩ := by rcases j with _ | j <;> simp [Addr.add]
  rw [ha]
  rcases Nat.mod_two_eq_zero_or_one j with e | e
  · rw [show j / 2 * 2 = j by omega] at a c
    rw [a] at hu
    cases hu
    exact c
  · rw [show j / 2 * 2 + 1 = j by omega] at b
    rw [show o + j / 2 * 2 + 1 = o + j by omega] at d
    rw [b] at hu
    cases hu
    exact d
theorem flat_one (l : List P2) : ∀ u ∈ flat l, u.oneCell' = true := by
  induction l with
  | nil => simp [flat]
  | cons x l ih =>
    intro u hu
    simp only [flat, List.mem_cons] at hu
    rcases hu with rfl | rfl | hu
    · rfl
    · rfl
    · exact ih u hu

theorem below_grown {W0 wq w1 wr : World} {e : TypeId} {v : Value} {n : Nat} {xs : List Value} (hown : wr.ownsRow W0.heap.size e 2 v n xs) (hB : Below W0.heap.size W0 wq) (hg : wq.grownBy w1 v.ownBlock) : Below W0.heap.size W0 w1 := by
  refine hB.grown hg hB.size fun k hk => ?_
  rcases hown.2 with ⟨rfl, _⟩ | ⟨g, cap, cur, rfl, hg, _⟩
  · simp [Value.ownBlock] at hk
  · simp [Value.ownBlock] at hk
    omega
section
variable {P : Program} {w W0 : World}
/-- append to a new empty list -/
theorem step_first {ops : Array Oper} {o : Oper} {a : Act} {K : Act → World → Prop} {Q : Exit → Act → World → Prop} {E : Prop} (hgd : o.guard = none) (s x : Operand) (t : TypeId)
    (ho : o.op = .call { callee := .builtin .append, args := #[s, x], argTypes := #[t, t] })
    (e : TypeId) (i : TypeInfo) (z : Value) (ht : P.underlying t = some (.slice e)) (hi : P.info? e = some i) (hz : i.zero = some z)
    (hsize : i.size = 2) (hby : i.bytes = 16) (hzs : z.cells.size = 2)
    (b : Nat) (hs : a.eval s = .slice (some ⟨b, 0, none⟩) 0 0) (hh : w.heap[b]? = some (.cells #[] e)) (hb : W0.heap.size ≤ b) (hS : Below W0.heap.size W0 w)
    (ad : Addr) (had : ad.block < W0.heap.size) (m c : Nat) (news : List Value) (hx : a.eval x = .slice (some ad) m c) (hl : news.length = m * 2) (hnews : ∀ j u, news[j]? = some u → W0.cell? (ad.add j) = some u) (h1 : ∀ u ∈ news, u.oneCell' = true)
    (h63 : m ≤ 1000000)
    (h : ∀ v' w', w'.ownsRow W0.heap.size e 2 v' m news → Below W0.heap.size W0 w' → (∀ b' o', w.heap[b']? = some o' → b' ≠ b → w'.heap[b']? = some o') → K (a.put o.dst v') w') :
    if Region.wanted o (yielded ops a.tmps) = true then Oper.wp P o a w K Q else E := by
  have hw : Region.wanted o (yielded ops a.tmps) = true := by simp [Region.wanted, hgd]
  rw [if_pos hw]
  have hown : w.ownsRow W0.heap.size e 2 (.slice (some ⟨b, 0, none⟩) 0 0) 0 [] := ⟨rfl, .inr ⟨b, 0, #[], rfl, hb, hh, Nat.le_refl _, by decide, rfl, rfl⟩⟩
  have hadd : ∀ j, (ad.add j).block = ad.block := fun j => by unfold Addr.add; split <;> rfl
  refine wp_append_own w s x t ho W0.heap.size e i z 2 16 ht hi hz hsize hby hzs (by omega) _ 0 [] hs hown ad m c news hx hl (fun j u hj => (hS.cell (by rw [hadd]; exact had)).trans (hnews j u hj)) h1 (by unfold maxLen; omega) (by omega) hS.size ?_
  intro v' w' h2 h3 _
  rw [Nat.zero_add] at h2
  refine h v' w' h2 (below_grown hown hS h3) fun b' o' hb' hne => ?_
  rw [h3.block b' (lt_of_block hb') (by simp [Value.ownBlock]; exact hne)]
  exact hb'
/-- append to what has been gathered -/
theorem step_next {ops : Array Oper} {o : Oper} {a : Act} {K : Act → World → Prop} {Q : Exit → Act → World → Prop} {E : Prop} (hgd : o.guard = none) (s x : Operand) (t : TypeId)
    (ho : o.op = .call { callee := .builtin .append, args := #[s, x], argTypes := #[t, t] })
    (e : TypeId) (i : TypeInfo) (z : Value) (ht : P.underlying t = some (.slice e)) (hi : P.info? e = some i) (hz : i.zero = some z)
    (hsize : i.size = 2) (hby : i.bytes = 16) (hzs : z.cells.size = 2)
    (v : Value) (n : Nat) (xs : List Value) (hs : a.eval s = v) (hown : ∃ wr : World, wr = w ∧ wr.ownsRow W0.heap.size e 2 v n xs) (hS : Below W0.heap.size W0 w)
    (ad : Addr) (m c : Nat) (news : List Value) (hx : a.eval x = .slice (some ad) m c) (hl : news.length = m * 2) (hnews : ∀ j u, news[j]? = some u → w.cell? (ad.add j) = some u) (h1 : ∀ u ∈ news, u.oneCell' = true)
    (h63 : n + m ≤ 2000000)
    (h : ∀ v' w', w'.ownsRow W0.heap.size e 2 v' (n + m) (xs ++ news) → Below W0.heap.size W0 w' → K (a.put o.dst v') w') :
    if Region.wanted o (yielded ops a.tmps) = true then Oper.wp P o a w K Q else E := by
  have hw : Region.wanted o (yielded ops a.tmps) = true := by simp [Region.wanted, hgd]
  rw [if_pos hw]
  obtain ⟨_, rfl, hown⟩ := hown
  refine wp_append_own _ s x t ho W0.heap.size e i z 2 16 ht hi hz hsize hby hzs (by omega) v n xs hs hown ad m c news hx hl hnews h1 (by unfold maxLen; omega) (by omega) hS.size ?_
  exact fun v' w' h2 h3 _ => h v' w' h2 (below_grown hown hS h3)
end

theorem alloc_keep {w : World} {b : Nat} {o x : Obj} (h : w.heap[b]? = some o) : (w.alloc x).heap[b]? = some o := (((Below.refl _ w).alloc (Nat.le_refl _) x).block b (lt_of_block h)).trans h
theorem alloc_at {w : World} {b : Nat} {o : Obj} (h : w.heap.size = b) : (w.alloc o).heap[b]? = some o := by subst h; exact heap_alloc_new w o
set_option maxHeartbeats 4000000 in
set_option maxRecDepth 100000 in
set_option maxRecDepth 100000 in
theorem refMerged_any (va : Value) (l : List P2) (w : World) (ha : PairsAt w va l) (hl : l.length ≤ 1000000) (hb : ∀ x ∈ l, x.1.natAbs ≤ 1000000000000 ∧ Gd x) :
    Calls Try.prog 47 #[va] w fun e w' => ∃ v, e = .returned (.tuple #[v, .bool (mrg1 l).isSome]) ∧ PairsAt w' v ((mrg1 l).getD l) ∧ Below w.heap.size w w' := by
  obtain ⟨i0, hi, hz0, hz1, hz2⟩ := info_parts info_pair
  have ha0 := ha
  obtain ⟨a, ca, rfl, hca, ha⟩ := ha
  have HA0 := Lib.hid ha0
  clear ha0
  go_enter Try.func47, Try.ntmps47
  go_wp2
  go_loopw [4] (fun i wr => ∃ k : Nat, k ≤ l.length ∧ i = .int .i64 k ∧ Below w.heap.size w wr ∧ mrg1 l = (mrg1 (l.drop k)).map (l.take k ++ ·)) (fun i _ => l.length - (intOf i).toNat)
  case atStart => exact ⟨0, Nat.zero_le _, rfl, Below.refl _ _, by simp⟩
  case round =>
    obtain ⟨k, hk, rfl, hB, hm⟩ := hrel
    by_cases hlt : k < l.length
    · obtain ⟨s1, s2, s3⟩ := mrg_step l k hlt hm
      obtain ⟨ga, oa, rfl, hga, hxa⟩ := ha (by omega)
      obtain ⟨⟨x1, x2⟩, hx⟩ : ∃ x, l[k]'hlt = x := ⟨_, rfl⟩
      have hx0 := hxa k _ (List.getElem?_eq_getElem hlt)
      rw [hx] at hx0 s1 s2 s3
      have p1 : wr.cell? ⟨ga, oa + k * 2, none⟩ = some (.int .i64 x1) := (hB.cell (p := ⟨ga, oa + k * 2, none⟩) hga).trans hx0.1
      have p2 : wr.cell? ⟨ga, oa + k * 2 + 1, none⟩ = some (.int .i64 x2) := (hB.cell (p := ⟨ga, oa + k * 2 + 1, none⟩) hga).trans hx0.2
      by_cases h0 : x1 = 0 ∧ x2 = 0
      · obtain ⟨rfl, rfl⟩ := h0
        have hr := s1 rfl
        have HR := Lib.hid hr
        have f1 : (0 : Int) ≤ (k : Int) := by omega
        have f2 : (k : Int) ≤ (ca : Int) := by omega
        have f3 : (k : Int) + 1 ≤ (l.length : Int) := by omega
        have f5 : (0 : Int) ≤ (k : Int) + 1 := by omega
        have f7 : IntKind.i64.wrap ((k : Int) + 1) = (k : Int) + 1 := IntWalk.i64_in _ ⟨by omega, by omega⟩
        have f6 : (k : Int) + 1 ≤ (ca : Int) := by omega
        have f4 : (l.length : Int) ≤ (ca : Int) := by omega
        have hsz := hB.size
        have N1 := flat_cells (w := w) (g := ga) (o := oa) (l := l.take k) fun j x hj => hxa j x (by rw [List.getElem?_take] at hj; split at hj; exact hj; cases hj)
        have N2 := flat_cells (w := w) (g := ga) (o := oa + (k + 1) * 2) (l := l.drop (k + 1)) fun j x hj => by
          have h := hxa (k + 1 + j) x (by rw [List.getElem?_drop] at hj; exact hj)
          rw [show oa + (k + 1) * 2 + j * 2 = oa + (k + 1 + j) * 2 by omega]
          exact h
        have L1 : (flat (l.take k)).length = k * 2 := by rw [flat_length, List.length_take]; omega
        have L2 : (flat (l.drop (k + 1))).length = (l.length - (k + 1)) * 2 := by rw [flat_length, List.length_drop]
        have hB2 : Below w.heap.size w ((wr.alloc (.cells #[] 86)).drewN 1) := below_drewN (hB.alloc hsz _) 1
        have M1 := Lib.hid fun j u h => (hB2.cell (p := (⟨ga, oa, none⟩ : Addr).add j) (by rcases j with _ | j <;> simpa [Addr.add] using hga)).trans (N1 j u h)
        have M2 := Lib.hid N2
        have LL1 := Lib.hid L1
        have LL2 := Lib.hid L2
        have HB2 := Lib.hid hB2
        have HG := Lib.hid fun (w1 : World) (g1 : ((wr.alloc (.cells #[] 86)).drew).grownBy w1 (Value.slice (some ⟨wr.heap.size, 0, none⟩) 0 0).ownBlock) => (show Below w.heap.size w w1 from (HB2.out).grown g1 HB2.out.size (fun b hk => by simp [Value.ownBlock] at hk; omega))
        have O1 := Lib.hid fun (w1 : World) (v1 : Value) (h1 : w1.ownsRow w.heap.size 86 2 v1 (0 + k) ([] ++ flat (l.take k))) => (show OwnP w1 w.heap.size 86 v1 (l.take k) by
          unfold OwnP
          rw [List.length_take, Nat.min_eq_left (by omega)]
          simpa using h1)
        have OM := Lib.hid (World.ownsRow_made (base := w.heap.size) (e := 86) (size := 2) wr #[] 0 hsz (by decide) rfl)
        clear s1 s2 s3 hr hm N1 N2 L1 L2 hB2 hxa ha
        by_cases hce : ca = k + 1
        · have hdn : l.drop (k + 1) = [] := List.drop_eq_nil_of_le (by omega)
          have HDN := Lib.hid hdn
          clear hdn
          subst hce
          have e1 : (k : Int) ≤ (k : Int) + 1 := by omega
          have e2 : (k : Int) + 1 ≤ (k : Int) + 1 := by omega
          have e3 : (l.length : Int) ≤ (k : Int) + 1 := by omega
          go_upto_region 5 with fail
          go_region_held3 (fun w' => True) (trivial) ((first
            | (refine step_append_own (by rfl) _ _ _ (by rfl) w.heap.size 86 i0 _ 2 16 Try.underlying82 hi hz0 hz1 hz2 rfl (by omega) (.slice (some ⟨wr.heap.size, 0, none⟩) 0 0) 0 [] (by rfl) (OM.out.drew) ⟨ga, oa, none⟩ k (k + 1) (flat (l.take k)) (by rfl) LL1.out M1.out (flat_one _) (by unfold maxLen; omega) (by omega) (by simp; omega) ?_; intro v1 w1 h1 g1 n1)
            | (refine step_append_own (by rfl) _ _ _ (by rfl) w.heap.size 86 i0 _ 2 16 Try.underlying82 hi hz0 hz1 hz2 rfl (by omega) v1 (0 + k) ([] ++ flat (l.take k)) (by rfl) h1 ⟨ga, oa, none⟩ 0 0 [] (by rfl) rfl (fun j u h => by simp at h) (fun u hu => by simp at hu) (by unfold maxLen; omega) (by omega) (HG.out _ g1).size ?_; intro v2 w2 h2 g2 n2)))
          have hB3 := HG.out _ g1
          have hO1 := O1.out _ _ h1
          have hB4 : Below w.heap.size w w2 := hO1.below hB3 hB3.size g2
          have hO2 : OwnP w2 w.heap.size 86 v2 (l.take k ++ l.drop (k + 1)) := by
            unfold OwnP
            rw [HDN.out, List.append_nil, List.length_take, Nat.min_eq_left (by omega)]
            simpa using h2
          have HO2 := Lib.hid hO2
          have HB4 := Lib.hid hB4
          clear hB3 hO1 hB4 hO2 h1 g1 n1 h2 g2 n2
          go_wp2
          refine bodyPost_ret (v := .tuple #[v2, .bool true]) (by simp [results, Try.results47, go_sem]) rfl ⟨v2, by rw [HR.out]; rfl, by rw [HR.out]; exact HO2.out.pairs, HB4.out⟩
        · go_upto_region 5 with fail
          go_region_held3 (fun w' => True) (trivial) ((first
            | (refine step_append_own (by rfl) _ _ _ (by rfl) w.heap.size 86 i0 _ 2 16 Try.underlying82 hi hz0 hz1 hz2 rfl (by omega) (.slice (some ⟨wr.heap.size, 0, none⟩) 0 0) 0 [] (by rfl) (OM.out.drew) ⟨ga, oa, none⟩ k ca (flat (l.take k)) (by rfl) LL1.out M1.out (flat_one _) (by unfold maxLen; omega) (by omega) (by simp; omega) ?_; intro v1 w1 h1 g1 n1)
            | (refine step_append_own (by rfl) _ _ _ (by rfl) w.heap.size 86 i0 _ 2 16 Try.underlying82 hi hz0 hz1 hz2 rfl (by omega) v1 (0 + k) ([] ++ flat (l.take k)) (by rfl) h1 ⟨ga, oa + (k + 1) * 2, none⟩ (l.length - (k + 1)) (ca - (k + 1)) (flat (l.drop (k + 1))) (by rfl) LL2.out (fun j u h => ((HG.out _ g1).cell (p := (⟨ga, oa + (k + 1) * 2, none⟩ : Addr).add j) (by rcases j with _ | j <;> simpa [Addr.add] using hga)).trans (M2.out j u h)) (flat_one _) (by unfold maxLen; omega) (by omega) (HG.out _ g1).size ?_; intro v2 w2 h2 g2 n2)))
          have hB3 := HG.out _ g1
          have hO1 := O1.out _ _ h1
          have hB4 : Below w.heap.size w w2 := hO1.below hB3 hB3.size g2
          have hO2 : OwnP w2 w.heap.size 86 v2 (l.take k ++ l.drop (k + 1)) := by
            unfold OwnP
            rw [flat_append, List.length_append, List.length_take, List.length_drop, Nat.min_eq_left (by omega)]
            simpa using h2
          have HO2 := Lib.hid hO2
          have HB4 := Lib.hid hB4
          clear hB3 hO1 hB4 hO2 h1 g1 n1 h2 g2 n2
          go_wp2
          refine bodyPost_ret (v := .tuple #[v2, .bool true]) (by simp [results, Try.results47, go_sem]) rfl ⟨v2, by rw [HR.out]; rfl, by rw [HR.out]; exact HO2.out.pairs, HB4.out⟩
      · have hx0' : ((x1, x2) : P2) ≠ (0, 0) := fun e => h0 ⟨congrArg Prod.fst e, congrArg Prod.snd e⟩
        have hxc : (x1 == 0) = false ∨ (x1 = 0 ∧ (x2 == 0) = false) := by
          by_cases e : x1 = 0
          · exact .inr ⟨e, beq_no' fun e2 => h0 ⟨e, e2⟩⟩
          · exact .inl (beq_no' e)
        have f7 : IntKind.i64.wrap ((k : Int) + 1) = (k : Int) + 1 := IntWalk.i64_in _ ⟨by omega, by omega⟩
        clear s1 hm
        by_cases hj : k + 1 < l.length
        · obtain ⟨⟨y1, y2⟩, hy⟩ : ∃ x, l[k + 1]'hj = x := ⟨_, rfl⟩
          have hy0 := hxa (k + 1) _ (List.getElem?_eq_getElem hj)
          have gy := (hb _ (List.getElem_mem hj)).2
          have by1 := (hb _ (List.getElem_mem hj)).1
          have gx := (hb _ (List.getElem_mem hlt)).2
          have bx1 := (hb _ (List.getElem_mem hlt)).1
          rw [hx] at gx bx1
          have s2' := fun h => s2 h hj
          rw [hy] at hy0 s2' gy by1
          have p3 : wr.cell? ⟨ga, oa + (k + 1) * 2, none⟩ = some (.int .i64 y1) := (hB.cell (p := ⟨ga, oa + (k + 1) * 2, none⟩) hga).trans hy0.1
          have p4 : wr.cell? ⟨ga, oa + (k + 1) * 2 + 1, none⟩ = some (.int .i64 y2) := (hB.cell (p := ⟨ga, oa + (k + 1) * 2 + 1, none⟩) hga).trans hy0.2
          have g1 : (k : Int) + 1 < (l.length : Int) := by omega
          have g2 : (0 : Int) ≤ (k : Int) + 1 := by omega
          by_cases hmg : sort2 (x1, x2) = sort2 (y1, y2) ∧ ((y1, y2) : P2) ≠ (0, 0)
          · have hm2 := s2' hx0' hmg
            have HR := Lib.hid hm2
            have hcs : (((x1 == 0) = false ∧ (x1 != 0) = true) ∧ ((y1 == 0) = false ∧ (y1 != 0) = true)) ∨ (x1 = 0 ∧ (x2 == 0) = false ∧ y1 = 0 ∧ (y2 == 0) = false) := by
              obtain ⟨h5, h6⟩ := hmg
              unfold sort2 at h5
              simp only [decide_eq_decide, ne_eq, Prod.mk.injEq, not_and] at h5 h6
              by_cases ex : x1 = 0
              · have ey : y1 = 0 := by
                  by_cases ey : y1 = 0
                  · exact ey
                  · exact absurd ex (h5.2 ey)
                exact .inr ⟨ex, beq_no' fun e2 => h0 ⟨ex, e2⟩, ey, beq_no' (h6 ey)⟩
              · have ey : y1 ≠ 0 := h5.1 ex
                exact .inl ⟨⟨beq_no' ex, by simp [bne, ex]⟩, ⟨beq_no' ey, by simp [bne, ey]⟩⟩
            obtain ⟨_, gx1, gx2⟩ := gx
            obtain ⟨_, gy1, gy2⟩ := gy
            simp only at gx1 gx2 gy1 gy2
            have ht : Int.tmod (x2 + y2) 4 = (x2 + y2) % 4 := Int.tmod_eq_emod_of_nonneg (by omega)
            have a1 : -1000000000000 ≤ x1 := by omega
            have a2 : x1 ≤ 1000000000000 := by omega
            have a3 : -1000000000000 ≤ y1 := by omega
            have a4 : y1 ≤ 1000000000000 := by omega
            have hsz := hB.size
            clear hm2 s2 s2' s3 hmg hxc hx0' h0 hy0 bx1 by1 hx hy hx0
            have WA := Lib.hid hxa
            clear hxa ha
            rcases hcs with ⟨⟨c1, c2⟩, c3, c4⟩ | ⟨rfl, c1, rfl, c2⟩
            · go_upto_region 6 with fail
              refine wp_region_calm0 (by kernel_rfl) (by kernel_rfl) fun M => ?_
              have e1 := fun n : In M.w => n.cell (M.cell p1)
              have e3 := fun n : In M.w => n.cell (M.cell p3)
              have e4 := fun n : In M.w => n.cell (M.cell p4)
              repeat (go_big_quiet_step (fail))
              refine wpQuiet_nil ?_
              intro w1 hb1
              replace hB := hB.trans (hb1.mono hB.size)
              replace p1 := (hb1.cell (World.block_lt_of_cell? _ _ p1)).trans p1
              replace p2 := (hb1.cell (World.block_lt_of_cell? _ _ p2)).trans p2
              replace p3 := (hb1.cell (World.block_lt_of_cell? _ _ p3)).trans p3
              replace p4 := (hb1.cell (World.block_lt_of_cell? _ _ p4)).trans p4
              clear hb1 e1 e3 e4 M
              go_upto_region 7 with fail
              refine wp_region_calmN 26 27 [(.cells #[.int .i64 0, .int .i64 0] 86, fun b => .pointer (some ⟨b, 0, none⟩))] (by kernel_rfl) (by simp) (by simp) (by kernel_rfl) fun M => ?_
              simp only [List.take_succ_cons, List.take_zero, List.drop_succ_cons, List.drop_zero, List.length_cons, List.length_nil, List.take_nil]
              have e1 := fun n : In M.w => n.cell (M.cell p1)
              have e2 := fun n : In M.w => n.cell (M.cell p2)
              have e3 := fun n : In M.w => n.cell (M.cell p3)
              have e4 := fun n : In M.w => n.cell (M.cell p4)
              repeat (go_big_quiet_step (fail))
              refine wpQuiet_nil ?_
              clear e1 e2 e3 e4 M
              refine ⟨rfl, fun n => by simp [go_sem], fun bp hp _ w2 hw => ?_⟩
              have hb := hw.below
              have hsz2 := hB.size
              have hH := fun a b => heap2_set (hw.own bp _ (Gh.set_self _ _ _)) a b
              have D1 : Cell2 w2 bp (.int .i64 0) (.int .i64 0) := Cell2.of_heap (hw.own bp _ (Gh.set_self _ _ _))
              replace hB := hB.trans (hb.mono hB.size)
              have n2 : w.heap.size ≤ bp := by omega
              obtain ⟨d0, d1, y0, y1'⟩ := D1
              clear hb hw p1 p2 p3 p4
              have hB3 := (hB.setCell (p := ⟨bp, 0, none⟩) n2 (.int .i64 (x1 + y1))).setCell (p := ⟨bp, 1, none⟩) n2 (.int .i64 ((x2 + y2) % 4))
              have hH3 := hH (.int .i64 (x1 + y1)) (.int .i64 ((x2 + y2) % 4))
              go_upto_region 8 with fail
              clear d0 d1 y0 y1' hH hB
              generalize (w2.setCell ⟨bp, 0, none⟩ (.int .i64 (x1 + y1))).setCell ⟨bp, 1, none⟩ (.int .i64 ((x2 + y2) % 4)) = W0 at *
              have HR2 : mrg1 l = some (l.take k ++ (x1 + y1, (x2 + y2) % 4) :: l.drop (k + 2)) := by rw [HR.out]; simp [comb]
              generalize (x2 + y2) % 4 = Q at *
              have HR3 := Lib.hid HR2
              obtain ⟨C0, C1, _, _⟩ := Cell2.of_heap hH3
              have hbp : bp < W0.heap.size := lt_of_block hH3
              have K0 : ∀ w', Below W0.heap.size W0 w' → w'.cell? ⟨bp, 0, none⟩ = some (.int .i64 (x1 + y1)) := fun w' h => (h.cell hbp).trans C0
              have K1 : ∀ w', Below W0.heap.size W0 w' → w'.cell? ⟨bp, 1, none⟩ = some (.int .i64 Q) := fun w' h => (h.cell hbp).trans C1
              have hga0 : ga < W0.heap.size := Nat.lt_of_lt_of_le hga hB3.size
              have N1 := Lib.hid (flat_cells (w := W0) (g := ga) (o := oa) (l := l.take k) fun j x hj => by
                have h := WA.out j x (by rw [List.getElem?_take] at hj; split at hj; exact hj; cases hj)
                exact ⟨(hB3.cell (p := ⟨ga, oa + j * 2, none⟩) hga).trans h.1, (hB3.cell (p := ⟨ga, oa + j * 2 + 1, none⟩) hga).trans h.2⟩)
              have N3 := Lib.hid (flat_cells (w := W0) (g := ga) (o := oa + (k + 2) * 2) (l := l.drop (k + 2)) fun j x hj => by
                have h := WA.out (k + 2 + j) x (by rw [List.getElem?_drop] at hj; exact hj)
                rw [show oa + (k + 2) * 2 + j * 2 = oa + (k + 2 + j) * 2 by omega]
                exact ⟨(hB3.cell (p := ⟨ga, oa + (k + 2 + j) * 2, none⟩) hga).trans h.1, (hB3.cell (p := ⟨ga, oa + (k + 2 + j) * 2 + 1, none⟩) hga).trans h.2⟩)
              have L1 : (flat (l.take k)).length = k * 2 := by rw [flat_length, List.length_take]; omega
              have L3 : (flat (l.drop (k + 2))).length = (l.length - (k + 2)) * 2 := by rw [flat_length, List.length_drop]
              have LL1 := Lib.hid L1
              have LL3 := Lib.hid L3
              have f1 : (0 : Int) ≤ (k : Int) := by omega
              have f2 : (k : Int) ≤ (ca : Int) := by omega
              have f3 : (k : Int) + 2 ≤ (l.length : Int) := by omega
              have f4 : (l.length : Int) ≤ (ca : Int) := by omega
              have f5 : (0 : Int) ≤ (k : Int) + 2 := by omega
              have f6 : (k : Int) + 2 ≤ (ca : Int) := by omega
              have ft : ((k : Int) + 2).toNat = k + 2 := by omega
              have f8 : IntKind.i64.wrap ((k : Int) + 2) = (k : Int) + 2 := IntWalk.i64_in _ ⟨by omega, by omega⟩
              clear HR2 L1 L3 C0 C1
              by_cases hce : ca = k + 2
              · have hdn : l.drop (k + 2) = [] := List.drop_eq_nil_of_le (by omega)
                have HDN := Lib.hid hdn
                clear hdn
                subst hce
                have e1 : (k : Int) ≤ (k : Int) + 2 := by omega
                have e2 : (k : Int) + 2 ≤ (k : Int) + 2 := by omega
                have e3 : (l.length : Int) ≤ (k : Int) + 2 := by omega
                go_region_held3 (fun w' => Below W0.heap.size W0 w') (first | assumption | exact below_drewN (Below.refl _ _) 1 | exact Below.alloc (by assumption) (Below.size (by assumption)) _) ((first
                  | (refine step_first (W0 := W0) (by rfl) _ _ _ (by rfl) 86 i0 _ Try.underlying82 hi hz0 hz1 hz2 rfl _ (by rfl) (by first | exact alloc_at (by simp) | exact alloc_keep (alloc_at (by simp))) (by simp) (by assumption) ⟨ga, oa, none⟩ hga0 k (k + 2) (flat (l.take k)) (by rfl) LL1.out N1.out (flat_one _) (by omega) ?_; intro v1 w3 h1 q1 r1)
                  | (refine step_next (W0 := W0) (by rfl) _ _ _ (by rfl) 86 i0 _ Try.underlying82 hi hz0 hz1 hz2 rfl v1 k (flat (l.take k)) (by rfl) (by first | exact ⟨_, rfl, h1⟩ | exact ⟨_, rfl, h1.alloc _⟩) (by assumption) ⟨_, 0, none⟩ 1 1 [.int .i64 (x1 + y1), .int .i64 Q] (by rfl) rfl (by first | exact World.news_of_block (cs := #[.int .i64 (x1 + y1), .int .i64 Q]) (alloc_at rfl) | exact World.news_of_block (cs := #[.int .i64 (x1 + y1), .int .i64 Q]) (r1 _ _ (by first | exact alloc_at (by simp) | exact alloc_keep (alloc_at (by simp))) (by simp))) (by intro u hu; simp at hu; rcases hu with rfl | rfl <;> rfl) (by omega) ?_; intro v2 w4 h2 q2)
                  | (refine step_next (W0 := W0) (by rfl) _ _ _ (by rfl) 86 i0 _ Try.underlying82 hi hz0 hz1 hz2 rfl v2 (k + 1) (flat (l.take k) ++ [.int .i64 (x1 + y1), .int .i64 Q]) (by rfl) ⟨_, rfl, h2⟩ (by assumption) ⟨ga, oa, none⟩ 0 0 [] (by rfl) rfl (fun j u h => by simp at h) (fun u hu => by simp at hu) (by omega) ?_; intro v3 w5 h3 q3)))
                all_goals
                  have hO3 : OwnP w5 W0.heap.size 86 v3 (l.take k ++ (x1 + y1, Q) :: l.drop (k + 2)) := by
                    unfold OwnP
                    rw [HDN.out, flat_append, List.length_append, List.length_take, List.length_cons, Nat.min_eq_left (by omega)]
                    simpa [flat] using h3
                  have HO3 := Lib.hid hO3
                  have HB5 := Lib.hid (hB3.trans (q3.mono hB3.size))
                  clear hO3 h1 q1 r1 h2 q2 h3 q3 K0 K1
                  go_wp2
                  refine bodyPost_ret (v := .tuple #[v3, .bool true]) (by simp [results, Try.results47, go_sem]) rfl ⟨v3, by rw [HR3.out]; rfl, by rw [HR3.out]; exact HO3.out.pairs, HB5.out⟩
              · go_region_held3 (fun w' => Below W0.heap.size W0 w') (first | assumption | exact below_drewN (Below.refl _ _) 1 | exact Below.alloc (by assumption) (Below.size (by assumption)) _) ((first
                  | (refine step_first (W0 := W0) (by rfl) _ _ _ (by rfl) 86 i0 _ Try.underlying82 hi hz0 hz1 hz2 rfl _ (by rfl) (by first | exact alloc_at (by simp) | exact alloc_keep (alloc_at (by simp))) (by simp) (by assumption) ⟨ga, oa, none⟩ hga0 k ca (flat (l.take k)) (by rfl) LL1.out N1.out (flat_one _) (by omega) ?_; intro v1 w3 h1 q1 r1)
                  | (refine step_next (W0 := W0) (by rfl) _ _ _ (by rfl) 86 i0 _ Try.underlying82 hi hz0 hz1 hz2 rfl v1 k (flat (l.take k)) (by rfl) (by first | exact ⟨_, rfl, h1⟩ | exact ⟨_, rfl, h1.alloc _⟩) (by assumption) ⟨_, 0, none⟩ 1 1 [.int .i64 (x1 + y1), .int .i64 Q] (by rfl) rfl (by first | exact World.news_of_block (cs := #[.int .i64 (x1 + y1), .int .i64 Q]) (alloc_at rfl) | exact World.news_of_block (cs := #[.int .i64 (x1 + y1), .int .i64 Q]) (r1 _ _ (by first | exact alloc_at (by simp) | exact alloc_keep (alloc_at (by simp))) (by simp))) (by intro u hu; simp at hu; rcases hu with rfl | rfl <;> rfl) (by omega) ?_; intro v2 w4 h2 q2)
                  | (refine step_next (W0 := W0) (by rfl) _ _ _ (by rfl) 86 i0 _ Try.underlying82 hi hz0 hz1 hz2 rfl v2 (k + 1) (flat (l.take k) ++ [.int .i64 (x1 + y1), .int .i64 Q]) (by rfl) ⟨_, rfl, h2⟩ (by assumption) ⟨ga, oa + (k + 2) * 2, none⟩ (l.length - (k + 2)) (ca - (k + 2)) (flat (l.drop (k + 2))) (by rfl) LL3.out (fun j u h => (q2.cell (p := (⟨ga, oa + (k + 2) * 2, none⟩ : Addr).add j) (by rcases j with _ | j <;> simpa [Addr.add] using hga0)).trans (N3.out j u h)) (flat_one _) (by omega) ?_; intro v3 w5 h3 q3)))
                all_goals
                  have hO3 : OwnP w5 W0.heap.size 86 v3 (l.take k ++ (x1 + y1, Q) :: l.drop (k + 2)) := by
                    unfold OwnP
                    rw [flat_append, List.length_append, List.length_take, List.length_cons, List.length_drop, Nat.min_eq_left (by omega)]
                    have e : k + 1 + (l.length - (k + 2)) = k + (l.length - (k + 2) + 1) := by omega
                    rw [e] at h3
                    simpa [flat] using h3
                  have HO3 := Lib.hid hO3
                  have HB5 := Lib.hid (hB3.trans (q3.mono hB3.size))
                  clear hO3 h1 q1 r1 h2 q2 h3 q3 K0 K1
                  go_wp2
                  refine bodyPost_ret (v := .tuple #[v3, .bool true]) (by simp [results, Try.results47, go_sem]) rfl ⟨v3, by rw [HR3.out]; rfl, by rw [HR3.out]; exact HO3.out.pairs, HB5.out⟩
            · go_upto_region 6 with fail
              refine wp_region_calm0 (by kernel_rfl) (by kernel_rfl) fun M => ?_
              have e1 := fun n : In M.w => n.cell (M.cell p1)
              have e3 := fun n : In M.w => n.cell (M.cell p3)
              have e4 := fun n : In M.w => n.cell (M.cell p4)
              repeat (go_big_quiet_step (fail))
              refine wpQuiet_nil ?_
              intro w1 hb1
              replace hB := hB.trans (hb1.mono hB.size)
              replace p1 := (hb1.cell (World.block_lt_of_cell? _ _ p1)).trans p1
              replace p2 := (hb1.cell (World.block_lt_of_cell? _ _ p2)).trans p2
              replace p3 := (hb1.cell (World.block_lt_of_cell? _ _ p3)).trans p3
              replace p4 := (hb1.cell (World.block_lt_of_cell? _ _ p4)).trans p4
              clear hb1 e1 e3 e4 M
              go_upto_region 7 with fail
              refine wp_region_calmN 26 27 [(.cells #[.int .i64 0, .int .i64 0] 86, fun b => .pointer (some ⟨b, 0, none⟩))] (by kernel_rfl) (by simp) (by simp) (by kernel_rfl) fun M => ?_
              simp only [List.take_succ_cons, List.take_zero, List.drop_succ_cons, List.drop_zero, List.length_cons, List.length_nil, List.take_nil]
              have e1 := fun n : In M.w => n.cell (M.cell p1)
              have e2 := fun n : In M.w => n.cell (M.cell p2)
              have e3 := fun n : In M.w => n.cell (M.cell p3)
              have e4 := fun n : In M.w => n.cell (M.cell p4)
              repeat (go_big_quiet_step (fail))
              refine wpQuiet_nil ?_
              clear e1 e2 e3 e4 M
              refine ⟨rfl, fun n => by simp [go_sem], fun bp hp _ w2 hw => ?_⟩
              have hb := hw.below
              have hsz2 := hB.size
              have hH := fun a b => heap2_set (hw.own bp _ (Gh.set_self _ _ _)) a b
              have D1 : Cell2 w2 bp (.int .i64 0) (.int .i64 0) := Cell2.of_heap (hw.own bp _ (Gh.set_self _ _ _))
              replace hB := hB.trans (hb.mono hB.size)
              have n2 : w.heap.size ≤ bp := by omega
              obtain ⟨d0, d1, y0, y1'⟩ := D1
              clear hb hw p1 p2 p3 p4
              have hB3 := (hB.setCell (p := ⟨bp, 0, none⟩) n2 (.int .i64 (0))).setCell (p := ⟨bp, 1, none⟩) n2 (.int .i64 ((x2 + y2) % 4))
              have hH3 := hH (.int .i64 (0)) (.int .i64 ((x2 + y2) % 4))
              go_upto_region 8 with fail
              clear d0 d1 y0 y1' hH hB
              generalize (w2.setCell ⟨bp, 0, none⟩ (.int .i64 (0))).setCell ⟨bp, 1, none⟩ (.int .i64 ((x2 + y2) % 4)) = W0 at *
              have HR2 : mrg1 l = some (l.take k ++ (0, (x2 + y2) % 4) :: l.drop (k + 2)) := by rw [HR.out]; simp [comb]
              generalize (x2 + y2) % 4 = Q at *
              have HR3 := Lib.hid HR2
              obtain ⟨C0, C1, _, _⟩ := Cell2.of_heap hH3
              have hbp : bp < W0.heap.size := lt_of_block hH3
              have K0 : ∀ w', Below W0.heap.size W0 w' → w'.cell? ⟨bp, 0, none⟩ = some (.int .i64 (0)) := fun w' h => (h.cell hbp).trans C0
              have K1 : ∀ w', Below W0.heap.size W0 w' → w'.cell? ⟨bp, 1, none⟩ = some (.int .i64 Q) := fun w' h => (h.cell hbp).trans C1
              have hga0 : ga < W0.heap.size := Nat.lt_of_lt_of_le hga hB3.size
              have N1 := Lib.hid (flat_cells (w := W0) (g := ga) (o := oa) (l := l.take k) fun j x hj => by
                have h := WA.out j x (by rw [List.getElem?_take] at hj; split at hj; exact hj; cases hj)
                exact ⟨(hB3.cell (p := ⟨ga, oa + j * 2, none⟩) hga).trans h.1, (hB3.cell (p := ⟨ga, oa + j * 2 + 1, none⟩) hga).trans h.2⟩)
              have N3 := Lib.hid (flat_cells (w := W0) (g := ga) (o := oa + (k + 2) * 2) (l := l.drop (k + 2)) fun j x hj => by
                have h := WA.out (k + 2 + j) x (by rw [List.getElem?_drop] at hj; exact hj)
                rw [show oa + (k + 2) * 2 + j * 2 = oa + (k + 2 + j) * 2 by omega]
                exact ⟨(hB3.cell (p := ⟨ga, oa + (k + 2 + j) * 2, none⟩) hga).trans h.1, (hB3.cell (p := ⟨ga, oa + (k + 2 + j) * 2 + 1, none⟩) hga).trans h.2⟩)
              have L1 : (flat (l.take k)).length = k * 2 := by rw [flat_length, List.length_take]; omega
              have L3 : (flat (l.drop (k + 2))).length = (l.length - (k + 2)) * 2 := by rw [flat_length, List.length_drop]
              have LL1 := Lib.hid L1
              have LL3 := Lib.hid L3
              have f1 : (0 : Int) ≤ (k : Int) := by omega
              have f2 : (k : Int) ≤ (ca : Int) := by omega
              have f3 : (k : Int) + 2 ≤ (l.length : Int) := by omega
              have f4 : (l.length : Int) ≤ (ca : Int) := by omega
              have f5 : (0 : Int) ≤ (k : Int) + 2 := by omega
              have f6 : (k : Int) + 2 ≤ (ca : Int) := by omega
              have ft : ((k : Int) + 2).toNat = k + 2 := by omega
              have f8 : IntKind.i64.wrap ((k : Int) + 2) = (k : Int) + 2 := IntWalk.i64_in _ ⟨by omega, by omega⟩
              clear HR2 L1 L3 C0 C1
              by_cases hce : ca = k + 2
              · have hdn : l.drop (k + 2) = [] := List.drop_eq_nil_of_le (by omega)
                have HDN := Lib.hid hdn
                clear hdn
                subst hce
                have e1 : (k : Int) ≤ (k : Int) + 2 := by omega
                have e2 : (k : Int) + 2 ≤ (k : Int) + 2 := by omega
                have e3 : (l.length : Int) ≤ (k : Int) + 2 := by omega
                go_region_held3 (fun w' => Below W0.heap.size W0 w') (first | assumption | exact below_drewN (Below.refl _ _) 1 | exact Below.alloc (by assumption) (Below.size (by assumption)) _) ((first
                  | (refine step_first (W0 := W0) (by rfl) _ _ _ (by rfl) 86 i0 _ Try.underlying82 hi hz0 hz1 hz2 rfl _ (by rfl) (by first | exact alloc_at (by simp) | exact alloc_keep (alloc_at (by simp))) (by simp) (by assumption) ⟨ga, oa, none⟩ hga0 k (k + 2) (flat (l.take k)) (by rfl) LL1.out N1.out (flat_one _) (by omega) ?_; intro v1 w3 h1 q1 r1)
                  | (refine step_next (W0 := W0) (by rfl) _ _ _ (by rfl) 86 i0 _ Try.underlying82 hi hz0 hz1 hz2 rfl v1 k (flat (l.take k)) (by rfl) (by first | exact ⟨_, rfl, h1⟩ | exact ⟨_, rfl, h1.alloc _⟩) (by assumption) ⟨_, 0, none⟩ 1 1 [.int .i64 (0), .int .i64 Q] (by rfl) rfl (by first | exact World.news_of_block (cs := #[.int .i64 (0), .int .i64 Q]) (alloc_at rfl) | exact World.news_of_block (cs := #[.int .i64 (0), .int .i64 Q]) (r1 _ _ (by first | exact alloc_at (by simp) | exact alloc_keep (alloc_at (by simp))) (by simp))) (by intro u hu; simp at hu; rcases hu with rfl | rfl <;> rfl) (by omega) ?_; intro v2 w4 h2 q2)
                  | (refine step_next (W0 := W0) (by rfl) _ _ _ (by rfl) 86 i0 _ Try.underlying82 hi hz0 hz1 hz2 rfl v2 (k + 1) (flat (l.take k) ++ [.int .i64 (0), .int .i64 Q]) (by rfl) ⟨_, rfl, h2⟩ (by assumption) ⟨ga, oa, none⟩ 0 0 [] (by rfl) rfl (fun j u h => by simp at h) (fun u hu => by simp at hu) (by omega) ?_; intro v3 w5 h3 q3)))
                all_goals
                  have hO3 : OwnP w5 W0.heap.size 86 v3 (l.take k ++ (0, Q) :: l.drop (k + 2)) := by
                    unfold OwnP
                    rw [HDN.out, flat_append, List.length_append, List.length_take, List.length_cons, Nat.min_eq_left (by omega)]
                    simpa [flat] using h3
                  have HO3 := Lib.hid hO3
                  have HB5 := Lib.hid (hB3.trans (q3.mono hB3.size))
                  clear hO3 h1 q1 r1 h2 q2 h3 q3 K0 K1
                  go_wp2
                  refine bodyPost_ret (v := .tuple #[v3, .bool true]) (by simp [results, Try.results47, go_sem]) rfl ⟨v3, by rw [HR3.out]; rfl, by rw [HR3.out]; exact HO3.out.pairs, HB5.out⟩
              · go_region_held3 (fun w' => Below W0.heap.size W0 w') (first | assumption | exact below_drewN (Below.refl _ _) 1 | exact Below.alloc (by assumption) (Below.size (by assumption)) _) ((first
                  | (refine step_first (W0 := W0) (by rfl) _ _ _ (by rfl) 86 i0 _ Try.underlying82 hi hz0 hz1 hz2 rfl _ (by rfl) (by first | exact alloc_at (by simp) | exact alloc_keep (alloc_at (by simp))) (by simp) (by assumption) ⟨ga, oa, none⟩ hga0 k ca (flat (l.take k)) (by rfl) LL1.out N1.out (flat_one _) (by omega) ?_; intro v1 w3 h1 q1 r1)
                  | (refine step_next (W0 := W0) (by rfl) _ _ _ (by rfl) 86 i0 _ Try.underlying82 hi hz0 hz1 hz2 rfl v1 k (flat (l.take k)) (by rfl) (by first | exact ⟨_, rfl, h1⟩ | exact ⟨_, rfl, h1.alloc _⟩) (by assumption) ⟨_, 0, none⟩ 1 1 [.int .i64 (0), .int .i64 Q] (by rfl) rfl (by first | exact World.news_of_block (cs := #[.int .i64 (0), .int .i64 Q]) (alloc_at rfl) | exact World.news_of_block (cs := #[.int .i64 (0), .int .i64 Q]) (r1 _ _ (by first | exact alloc_at (by simp) | exact alloc_keep (alloc_at (by simp))) (by simp))) (by intro u hu; simp at hu; rcases hu with rfl | rfl <;> rfl) (by omega) ?_; intro v2 w4 h2 q2)
                  | (refine step_next (W0 := W0) (by rfl) _ _ _ (by rfl) 86 i0 _ Try.underlying82 hi hz0 hz1 hz2 rfl v2 (k + 1) (flat (l.take k) ++ [.int .i64 (0), .int .i64 Q]) (by rfl) ⟨_, rfl, h2⟩ (by assumption) ⟨ga, oa + (k + 2) * 2, none⟩ (l.length - (k + 2)) (ca - (k + 2)) (flat (l.drop (k + 2))) (by rfl) LL3.out (fun j u h => (q2.cell (p := (⟨ga, oa + (k + 2) * 2, none⟩ : Addr).add j) (by rcases j with _ | j <;> simpa [Addr.add] using hga0)).trans (N3.out j u h)) (flat_one _) (by omega) ?_; intro v3 w5 h3 q3)))
                all_goals
                  have hO3 : OwnP w5 W0.heap.size 86 v3 (l.take k ++ (0, Q) :: l.drop (k + 2)) := by
                    unfold OwnP
                    rw [flat_append, List.length_append, List.length_take, List.length_cons, List.length_drop, Nat.min_eq_left (by omega)]
                    have e : k + 1 + (l.length - (k + 2)) = k + (l.length - (k + 2) + 1) := by omega
                    rw [e] at h3
                    simpa [flat] using h3
                  have HO3 := Lib.hid hO3
                  have HB5 := Lib.hid (hB3.trans (q3.mono hB3.size))
                  clear hO3 h1 q1 r1 h2 q2 h3 q3 K0 K1
                  go_wp2
                  refine bodyPost_ret (v := .tuple #[v3, .bool true]) (by simp [results, Try.results47, go_sem]) rfl ⟨v3, by rw [HR3.out]; rfl, by rw [HR3.out]; exact HO3.out.pairs, HB5.out⟩
          · have hm2 := s3 hx0' (fun _ => by rw [hy]; exact hmg)
            have hcs : ((x1 == 0) = false ∧ y1 = 0) ∨ (x1 = 0 ∧ (x2 == 0) = false ∧ (y1 == 0) = false) ∨ (x1 = 0 ∧ (x2 == 0) = false ∧ y1 = 0 ∧ y2 = 0) := by
              unfold sort2 at hmg
              simp only [decide_eq_decide, ne_eq, Prod.mk.injEq, not_and] at hmg
              by_cases ey : y1 = 0
              · by_cases ex : x1 = 0
                · refine .inr (.inr ⟨ex, beq_no' fun e2 => h0 ⟨ex, e2⟩, ey, ?_⟩)
                  have h5 := hmg (by simp [ex, ey])
                  by_cases e2 : y2 = 0
                  · exact e2
                  · exact absurd (fun _ => e2) h5
                · exact .inl ⟨beq_no' ex, ey⟩
              · by_cases ex : x1 = 0
                · exact .inr (.inl ⟨ex, beq_no' fun e2 => h0 ⟨ex, e2⟩, beq_no' ey⟩)
                · have h5 := hmg (by simp [ex, ey])
                  exact absurd (fun e => absurd e ey) h5
            have HM := Lib.hid hm2
            clear hm2 s2 s2' s3 hmg hxc hx0' h0 hy0 hxa ha gx gy bx1 by1 hx hy hx0
            rcases hcs with ⟨c1, rfl⟩ | ⟨rfl, c1, c2⟩ | ⟨rfl, c1, rfl, rfl⟩
            all_goals
              first
                | (have d1 : (x1 != 0) = true := by simp [bne, c1])
                | (have d1 : (y1 != 0) = true := by simp [bne, c2])
                | skip
              go_upto_region 6 with fail
              refine wp_region_calm0 (by kernel_rfl) (by kernel_rfl) fun M => ?_
              have e1 := fun n : In M.w => n.cell (M.cell p1)
              have e3 := fun n : In M.w => n.cell (M.cell p3)
              have e4 := fun n : In M.w => n.cell (M.cell p4)
              repeat (go_big_quiet_step (fail))
              refine wpQuiet_nil ?_
              intro w1 hb1
              replace hB := hB.trans (hb1.mono hB.size)
              clear hb1 e1 e3 e4 M
              go_wp2
              go_roundw
              case rel => exact ⟨k + 1, by omega, by go_num, hB, HM.out⟩
              case measure => simp [intOf]; omega
        · have hm2 := s3 hx0' (fun h => absurd h hj)
          have HM := Lib.hid hm2
          have g1 : ¬ (k : Int) + 1 < (l.length : Int) := by omega
          clear hm2 s2 s3 hx0' h0 hxa ha hx hx0 hj
          rcases hxc with c1 | ⟨rfl, c1⟩
          all_goals
            go_upto_region 6 with fail
            refine wp_region_calm0 (by kernel_rfl) (by kernel_rfl) fun M => ?_
            have e1 := fun n : In M.w => n.cell (M.cell p1)
            repeat (go_big_quiet_step (fail))
            refine wpQuiet_nil ?_
            intro w1 hb1
            replace hB := hB.trans (hb1.mono hB.size)
            clear hb1 e1 M
            go_wp2
            go_roundw
            case rel => exact ⟨k + 1, by omega, by go_num, hB, HM.out⟩
            case measure => simp [intOf]; omega
    · have e : l.drop k = [] := List.drop_eq_nil_of_le (by omega)
      rw [e] at hm
      have hn : mrg1 l = none := by rw [hm]; rfl
      have HN := Lib.hid hn
      have hfin := HA0.out.below (Nat.le_refl _) hB
      have HF := Lib.hid hfin
      clear hm hn e ha hfin
      go_wp2
      refine bodyPost_ret (v := .tuple #[.slice a l.length ca, .bool false]) (by simp [results, Try.results47, go_sem]) rfl ⟨.slice a l.length ca, by rw [HN.out]; rfl, by rw [HN.out]; exact HF.out, hB⟩
end Go.Proofs.Ytibeljppjaenbaa
