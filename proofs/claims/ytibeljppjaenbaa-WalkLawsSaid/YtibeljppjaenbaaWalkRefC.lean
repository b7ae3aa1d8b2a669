/- The walks of the document's answers for layer 5: a walk the other way round. -/
import Derived.Test.YtibeljppjaenbaaWalkRefB
import Derived.Test.YtibeljppjaenbaaOwnPairs
namespace Go.Proofs.Ytibeljppjaenbaa
open Go.RowKit

theorem info_move : (Try.prog.info? 48).map (fun i => (i.zero, i.size, i.bytes)) = some (some (.agg #[.int .i64 0, .int .i64 0]), 2, 16) := by kernel_rfl

/-- a move the other way round -/
def rev1 (m : Int × Int) : Int × Int := (if m.1 = 1 then 2 else if m.1 = 2 then 1 else if m.1 = 3 then 4 else if m.1 = 4 then 3 else m.1, m.2)
def revw (l : List (Int × Int)) : List (Int × Int) := l.reverse.map rev1
theorem revw_drop (l : List (Int × Int)) (k : Nat) (h : k < l.length) : revw (l.drop k) = revw (l.drop (k + 1)) ++ [rev1 l[k]] := by
  unfold revw
  rw [List.drop_eq_getElem_cons h, List.reverse_cons, List.map_append]
  rfl

set_option maxHeartbeats 4000000 in
theorem refReverse_any (va : Value) (l : List (Int × Int)) (w : World) (ha : PairsAt w va l) (hl : l.length ≤ 1000000) :
    Calls Try.prog 22 #[va] w fun e w' => ∃ v, e = .returned v ∧ PairsAt w' v (revw l) ∧ Below w.heap.size w w' := by
  obtain ⟨a, ca, rfl, hca, ha⟩ := ha
  obtain ⟨i0, hi, hz0, hz1, hz2⟩ := info_parts info_move
  go_enter Try.func22, Try.ntmps22
  go_wp2
  go_loopw [3, 4, 5] (fun v i _ wr => ∃ k : Nat, k ≤ l.length ∧ i = .int .i64 (k - 1) ∧ OwnP wr w.heap.size 48 v (revw (l.drop k)) ∧ Below w.heap.size w wr) (fun _ i _ _ => (intOf i + 1).toNat)
  case atStart => exact ⟨l.length, Nat.le_refl _, rfl, by rw [List.drop_length]; exact OwnP.nil _ _ _, Below.refl _ _⟩
  case round =>
    obtain ⟨k, hk, rfl, hown, hB⟩ := hrel
    by_cases hk0 : k = 0
    · subst hk0
      rw [List.drop_zero] at hown
      go_wp2
      go_ret
      exact ⟨_, rfl, hown.pairs, hB⟩
    · obtain ⟨j, rfl⟩ : ∃ j, k = j + 1 := ⟨k - 1, by omega⟩
      have hj : j < l.length := by omega
      have hrev := revw_drop l j hj
      obtain ⟨ga, oa, rfl, hga, hxa⟩ := ha (by omega)
      obtain ⟨⟨x1, x2⟩, hx⟩ : ∃ x, l[j]'hj = x := ⟨_, rfl⟩
      have hx0 := hxa j _ (List.getElem?_eq_getElem hj)
      rw [hx] at hx0 hrev
      have p1 : wr.cell? ⟨ga, oa + j * 2, none⟩ = some (.int .i64 x1) := (hB.cell (p := ⟨ga, oa + j * 2, none⟩) hga).trans hx0.1
      have p2 : wr.cell? ⟨ga, oa + j * 2 + 1, none⟩ = some (.int .i64 x2) := (hB.cell (p := ⟨ga, oa + j * 2 + 1, none⟩) hga).trans hx0.2
      have hjm : (((j + 1 : Nat) : Int) - 1) = (j : Int) := by omega
      have hj0 : 0 ≤ (j : Int) := by omega
      have hj1 : (j : Int) < l.length := by omega
      rw [hjm]
      have HR := Lib.hid hrev
      clear hx0 hxa ha hx hrev hjm hk0 hk
      obtain ⟨r1, hr1⟩ : ∃ r, (rev1 (x1, x2)).1 = r := ⟨_, rfl⟩
      have hrv : rev1 (x1, x2) = (r1, x2) := Prod.ext hr1 rfl
      have hlen : (revw (l.drop (j + 1))).length ≤ 1000000 := by unfold revw; simp; omega
      have FIN : ∀ A B : Obj, ∀ v' w1, w1.ownsRow w.heap.size 48 2 v' ((revw (l.drop (j + 1))).length + 1) (flat (revw (l.drop (j + 1))) ++ [.int .i64 r1, .int .i64 x2]) → ((wr.alloc A).alloc B).grownBy w1 u3.ownBlock →
          OwnP w1 w.heap.size 48 v' (revw (l.drop j)) ∧ Below w.heap.size w w1 := by
        intro A B v' w1 h1 h2
        have hB2 := (hB.alloc hB.size A).alloc (by simp; have := hB.size; omega) B
        refine ⟨?_, hown.below hB2 hB2.size h2⟩
        rw [HR.out, hrv]
        unfold OwnP
        rw [List.length_append, flat_append]
        exact h1
      have FIN := Lib.hid FIN
      have hsz := hB.size
      have kinds : (x1 = 1 ∧ r1 = 2) ∨ (x1 = 2 ∧ r1 = 1) ∨ (x1 = 3 ∧ r1 = 4) ∨ (x1 = 4 ∧ r1 = 3) ∨ ((x1 == 1) = false ∧ (x1 == 2) = false ∧ (x1 == 3) = false ∧ (x1 == 4) = false ∧ r1 = x1) := by
        unfold rev1 at hr1
        simp only at hr1
        by_cases e1 : x1 = 1
        · rw [if_pos e1] at hr1; exact .inl ⟨e1, hr1.symm⟩
        · rw [if_neg e1] at hr1
          by_cases e2 : x1 = 2
          · rw [if_pos e2] at hr1; exact .inr (.inl ⟨e2, hr1.symm⟩)
          · rw [if_neg e2] at hr1
            by_cases e3 : x1 = 3
            · rw [if_pos e3] at hr1; exact .inr (.inr (.inl ⟨e3, hr1.symm⟩))
            · rw [if_neg e3] at hr1
              by_cases e4 : x1 = 4
              · rw [if_pos e4] at hr1; exact .inr (.inr (.inr (.inl ⟨e4, hr1.symm⟩)))
              · rw [if_neg e4] at hr1; exact .inr (.inr (.inr (.inr ⟨beq_no' e1, beq_no' e2, beq_no' e3, beq_no' e4, hr1.symm⟩)))
      clear hr1 hrv hB
      have hown' := fun A B => (hown.alloc A).alloc B
      have HOWN := Lib.hid hown'
      clear hown hown'
      rcases kinds with ⟨rfl, rfl⟩ | ⟨rfl, rfl⟩ | ⟨rfl, rfl⟩ | ⟨rfl, rfl⟩ | ⟨m1, m2, m3, m4, rfl⟩
      · go_wp2_with (at_builtin; refine wpList_append_own _ rfl _ _ 22 rfl w.heap.size 48 i0 (.agg #[.int .i64 0, .int .i64 0]) 2 16 Try.underlying22 hi hz0 hz1 hz2 rfl (by decide) _ _ _ rfl (HOWN.out _ _) ⟨wr.heap.size + 1, 0, none⟩ 1 1 [.int .i64 2, .int .i64 x2] rfl rfl ?_ (by intro u hu; simp at hu; rcases hu with rfl | rfl <;> rfl) (by unfold maxLen; omega) (by omega) (by simp; omega) ?_)
        · intro j' u hj'
          match j', hj' with
          | 0, hj' => simp at hj'; subst hj'; simp [Addr.add]
          | 1, hj' => simp at hj'; subst hj'; simp [Addr.add]
        intro v' w1 hown1 hgrow1 _
        have hF := FIN.out _ _ v' w1 hown1 hgrow1
        clear hown1 hgrow1
        have HF := Lib.hid hF
        clear hF
        go_wp2
        go_roundw
        case rel => exact ⟨j, by omega, rfl, HF.out.1, HF.out.2⟩
        case measure => simp [intOf]
      · go_wp2_with (at_builtin; refine wpList_append_own _ rfl _ _ 22 rfl w.heap.size 48 i0 (.agg #[.int .i64 0, .int .i64 0]) 2 16 Try.underlying22 hi hz0 hz1 hz2 rfl (by decide) _ _ _ rfl (HOWN.out _ _) ⟨wr.heap.size + 1, 0, none⟩ 1 1 [.int .i64 1, .int .i64 x2] rfl rfl ?_ (by intro u hu; simp at hu; rcases hu with rfl | rfl <;> rfl) (by unfold maxLen; omega) (by omega) (by simp; omega) ?_)
        · intro j' u hj'
          match j', hj' with
          | 0, hj' => simp at hj'; subst hj'; simp [Addr.add]
          | 1, hj' => simp at hj'; subst hj'; simp [Addr.add]
        intro v' w1 hown1 hgrow1 _
        have hF := FIN.out _ _ v' w1 hown1 hgrow1
        clear hown1 hgrow1
        have HF := Lib.hid hF
        clear hF
        go_wp2
        go_roundw
        case rel => exact ⟨j, by omega, rfl, HF.out.1, HF.out.2⟩
        case measure => simp [intOf]
      · go_wp2_with (at_builtin; refine wpList_append_own _ rfl _ _ 22 rfl w.heap.size 48 i0 (.agg #[.int .i64 0, .int .i64 0]) 2 16 Try.underlying22 hi hz0 hz1 hz2 rfl (by decide) _ _ _ rfl (HOWN.out _ _) ⟨wr.heap.size + 1, 0, none⟩ 1 1 [.int .i64 4, .int .i64 x2] rfl rfl ?_ (by intro u hu; simp at hu; rcases hu with rfl | rfl <;> rfl) (by unfold maxLen; omega) (by omega) (by simp; omega) ?_)
        · intro j' u hj'
          match j', hj' with
          | 0, hj' => simp at hj'; subst hj'; simp [Addr.add]
          | 1, hj' => simp at hj'; subst hj'; simp [Addr.add]
        intro v' w1 hown1 hgrow1 _
        have hF := FIN.out _ _ v' w1 hown1 hgrow1
        clear hown1 hgrow1
        have HF := Lib.hid hF
        clear hF
        go_wp2
        go_roundw
        case rel => exact ⟨j, by omega, rfl, HF.out.1, HF.out.2⟩
        case measure => simp [intOf]
      · go_wp2_with (at_builtin; refine wpList_append_own _ rfl _ _ 22 rfl w.heap.size 48 i0 (.agg #[.int .i64 0, .int .i64 0]) 2 16 Try.underlying22 hi hz0 hz1 hz2 rfl (by decide) _ _ _ rfl (HOWN.out _ _) ⟨wr.heap.size + 1, 0, none⟩ 1 1 [.int .i64 3, .int .i64 x2] rfl rfl ?_ (by intro u hu; simp at hu; rcases hu with rfl | rfl <;> rfl) (by unfold maxLen; omega) (by omega) (by simp; omega) ?_)
        · intro j' u hj'
          match j', hj' with
          | 0, hj' => simp at hj'; subst hj'; simp [Addr.add]
          | 1, hj' => simp at hj'; subst hj'; simp [Addr.add]
        intro v' w1 hown1 hgrow1 _
        have hF := FIN.out _ _ v' w1 hown1 hgrow1
        clear hown1 hgrow1
        have HF := Lib.hid hF
        clear hF
        go_wp2
        go_roundw
        case rel => exact ⟨j, by omega, rfl, HF.out.1, HF.out.2⟩
        case measure => simp [intOf]
      · go_wp2_with (at_builtin; refine wpList_append_own _ rfl _ _ 22 rfl w.heap.size 48 i0 (.agg #[.int .i64 0, .int .i64 0]) 2 16 Try.underlying22 hi hz0 hz1 hz2 rfl (by decide) _ _ _ rfl (HOWN.out _ _) ⟨wr.heap.size + 1, 0, none⟩ 1 1 [.int .i64 r1, .int .i64 x2] rfl rfl ?_ (by intro u hu; simp at hu; rcases hu with rfl | rfl <;> rfl) (by unfold maxLen; omega) (by omega) (by simp; omega) ?_)
        · intro j' u hj'
          match j', hj' with
          | 0, hj' => simp at hj'; subst hj'; simp [Addr.add]
          | 1, hj' => simp at hj'; subst hj'; simp [Addr.add]
        intro v' w1 hown1 hgrow1 _
        have hF := FIN.out _ _ v' w1 hown1 hgrow1
        clear hown1 hgrow1
        have HF := Lib.hid hF
        clear hF
        go_wp2
        go_roundw
        case rel => exact ⟨j, by omega, rfl, HF.out.1, HF.out.2⟩
        case measure => simp [intOf]
end Go.Proofs.Ytibeljppjaenbaa
