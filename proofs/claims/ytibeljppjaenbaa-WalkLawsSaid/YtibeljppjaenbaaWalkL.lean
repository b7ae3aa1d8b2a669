/- Two walks, one behind the other. -/
import Derived.Test.YtibeljppjaenbaaWalkRefM
namespace Go.Proofs.Ytibeljppjaenbaa
open Go.RowKit

section
variable {P : Program} {w : World}
theorem run_append_none' (base : Nat) (t ty e : TypeId) (i : TypeInfo) (size c : Nat) (ht : P.underlying t = some (.slice e)) (hi : P.info? e = some i)
    (v : Value) (n : Nat) (xs : List Value) (hown : w.ownsRow base e size v n xs) :
    (Builtin.append_ #[t, t] ty #[v, .slice none 0 c]).run P w = .ok v w := by
  rcases hown.2 with ⟨rfl, rfl⟩ | ⟨g, cap, cur, rfl, _, _, hnc, _⟩
  · simp [Builtin.append_, run_underlying ht, sizeOf, typeInfo, hi, Builtin.lenOf, Builtin.firstCells]
  · simp [Builtin.append_, run_underlying ht, sizeOf, typeInfo, hi, Builtin.lenOf, Builtin.firstCells, hnc, storeCells]
theorem wpList_append_pairs {ops : Array Oper} {rest : List Oper} {o : Oper} {a : Act} {Q : Exit → Act → World → Prop} (hgd : o.guard = none) (s x : Operand) (t : TypeId)
    (ho : o.op = .call { callee := .builtin .append, args := #[s, x], argTypes := #[t, t] })
    (base : Nat) (e : TypeId) (i : TypeInfo) (z : Value) (ht : P.underlying t = some (.slice e)) (hi : P.info? e = some i) (hz : i.zero = some z) (hsize : i.size = 2) (hby : i.bytes = 16) (hzs : z.cells.size = 2)
    (v : Value) (n : Nat) (xs : List Value) (hs : a.eval s = v) (hown : w.ownsRow base e 2 v n xs) (va : Value) (l : List (Int × Int)) (hx : a.eval x = va) (hp : PairsAt w va l) (h63 : n + l.length ≤ 1000000) (hbase : base ≤ w.heap.size)
    (h : ∀ v' w', w'.ownsRow base e 2 v' (n + l.length) (xs ++ flat l) → w.grownBy w' v.ownBlock → wpList P ops Q rest (a.put o.dst v') w') : wpList P ops Q (o :: rest) a w := by
  obtain ⟨ad, cap, rfl, hcap, hc⟩ := hp
  cases ad with
  | none =>
    have hl0 : l.length = 0 := by
      rcases Nat.eq_zero_or_pos l.length with h0 | h0
      · exact h0
      · obtain ⟨g, o', e', _⟩ := hc h0
        cases e'
    have : l = [] := List.eq_nil_of_length_eq_zero hl0
    subst this
    refine wpList_plain hgd fun K hK => ?_
    have hrun := run_append_none' (P := P) (w := w) base t o.type e i 2 cap ht hi v n xs hown
    unfold Oper.wp
    simp only [List.length_nil] at hx
    simp [execOp, ho, resolve, invoke, builtin, hs, hx, hrun, Result.andThen]
    exact hK _ _ (h v w (by simpa [flat] using hown) ⟨rfl, rfl, rfl, Nat.le_refl _, fun _ _ _ => rfl⟩)
  | some ad =>
    refine wpList_append_own w hgd s x t ho base e i z 2 16 ht hi hz hsize hby hzs (by decide) v n xs hs hown ad l.length cap (flat l) hx (flat_length l) ?_ (flat_one l) (by unfold maxLen; omega) (by omega) hbase fun v' w' h1 h2 _ => h v' w' h1 h2
    intro j u hu
    have hl0 : 0 < l.length := by
      have := (List.getElem?_eq_some_iff.1 hu).1
      rw [flat_length] at this
      omega
    obtain ⟨g, o', e', hg, hcell⟩ := hc hl0
    cases e'
    exact flat_cells hcell j u hu
end

set_option maxHeartbeats 1000000 in
set_option maxRecDepth 100000 in
theorem wboth_any (va vb : Value) (a b : List (Int × Int)) (w : World) (ha : PairsAt w va a) (hb : PairsAt w vb b) (la : a.length ≤ 1000) (lb : b.length ≤ 1000) :
    Calls Try.prog 24 #[va, vb] w fun e w' => ∃ v, e = .returned v ∧ PairsAt w' v (a ++ b) ∧ Below w.heap.size w w' := by
  obtain ⟨i0, hi, hz0, hz1, hz2⟩ := info_parts info_move
  have hB0 : Below w.heap.size w (w.alloc (.cells #[] 48)) := (Below.refl _ w).alloc (Nat.le_refl _) _
  have hA := Lib.hid (ha.kept hB0)
  have hBb := Lib.hid hb
  have hO := Lib.hid (World.ownsRow_lit (base := w.heap.size) (size := 2) (e := 48) w #[] 0 (Nat.le_refl _) (by decide) rfl)
  have hforma : ∃ x c, va = .slice x a.length c := by obtain ⟨x, c, e, _⟩ := ha; exact ⟨x, c, e⟩
  have hformb : ∃ x c, vb = .slice x b.length c := by obtain ⟨x, c, e, _⟩ := hb; exact ⟨x, c, e⟩
  obtain ⟨xa, ca, rfl⟩ := hforma
  obtain ⟨xb, cb, rfl⟩ := hformb
  have hla : (flat a).length = a.length * 2 := flat_length a
  clear ha hb
  go_enter Try.func24, Try.ntmps24
  go_wp2_with (at_builtin; refine wpList_append_pairs rfl _ _ 22 rfl w.heap.size 48 i0 (.agg #[.int .i64 0, .int .i64 0]) Try.underlying22 hi hz0 hz1 hz2 rfl _ 0 [] rfl hO.out _ a rfl hA.out (by omega) (by simp) ?_)
  intro v1 w1 h1 g1
  have hB1 : Below w.heap.size w w1 := hB0.grown g1 (by simp) (fun k hk => (hO.out.lt k hk).1)
  have hBb1 := Lib.hid (hBb.out.below (Nat.le_refl _) hB1)
  have hO1 := Lib.hid h1
  clear h1 g1 hB0 hA hO
  go_wp2_with (at_builtin; refine wpList_append_pairs rfl _ _ 22 rfl w.heap.size 48 i0 (.agg #[.int .i64 0, .int .i64 0]) Try.underlying22 hi hz0 hz1 hz2 rfl _ a.length (flat a) rfl hO1.out _ b rfl hBb1.out (by omega) hB1.size ?_)
  intro v2 w2 h2 g2
  have hB2 : Below w.heap.size w w2 := hB1.grown g2 hB1.size (fun k hk => (hO1.out.lt k hk).1)
  have ho : OwnP w2 w.heap.size 48 v2 (a ++ b) := by
    unfold OwnP
    rw [List.length_append, flat_append]
    exact h2
  have HO2 := Lib.hid ho
  clear h2 g2 ho
  go_wp2
  go_ret
  exact ⟨v2, rfl, HO2.out.pairs, hB2⟩
end Go.Proofs.Ytibeljppjaenbaa
