/- The walks of the document's answers for layer 5: counts, what is the same, what is near. -/
import Derived.Test.YthndmoipemnllaaPairsAt
import Derived.Test.YthndmoipemnllaaGaussR
import Derived.Deep.DeepCutAuto
namespace Go.Proofs.Ythndmoipemnllaa
open Go.RowKit

/-- how often a move is done -/
def cnt (m : Int × Int) : Int := if m.1 < 1 ∨ 4 < m.1 then 0 else max 0 (min m.2 1048576)
theorem cnt_bd (m : Int × Int) : 0 ≤ cnt m ∧ cnt m ≤ 1048576 := by unfold cnt; split <;> omega

theorem beq_no' {a b : Int} (h : a ≠ b) : (a == b) = false := by simp [h]

set_option maxHeartbeats 1000000 in
theorem refPoints_any (va vb : Value) (l l' : List (Int × Int)) (w : World) (ha : PairsAt w va l) (hb : PairsAt w vb l') (hl : l.length ≤ 9223372036854775807) (hl' : l'.length ≤ 9223372036854775807) :
    Calls Try.prog 12 #[va, vb] w fun e w' => e = .returned (.bool (decide (l = l'))) ∧ Below w.heap.size w w' := by
  obtain ⟨a, ca, rfl, hca, ha⟩ := ha
  obtain ⟨b, cb, rfl, hcb, hb⟩ := hb
  by_cases hlen : l.length = l'.length
  case neg =>
    have hne : ((l.length : Nat) : Int) ≠ ((l'.length : Nat) : Int) := by omega
    rw [decide_eq_false (fun h => hlen (congrArg List.length h))]
    have h1 := beq_no' hne
    go_enter Try.func12, Try.ntmps12
    go_wp2
    go_ret
    exact ⟨rfl, Below.refl _ _⟩
  have HL := Lib.hid hlen
  rw [← hlen] at hb hl' hcb ⊢
  clear hlen
  go_enter Try.func12, Try.ntmps12
  go_wp2
  go_loopw [5] (fun i wr => ∃ k : Nat, k ≤ l.length ∧ i = .int .i64 k ∧ Below w.heap.size w wr ∧ l.take k = l'.take k) (fun i _ => l.length - (intOf i).toNat)
  case atStart => exact ⟨0, Nat.zero_le _, rfl, Below.refl _ _, rfl⟩
  case round =>
    obtain ⟨k, hk, rfl, hbel, hsame⟩ := hrel
    have HS := Lib.hid hsame
    clear hsame
    by_cases hlt : k < l.length
    · have hlt' : k < l'.length := by rw [← HL.out]; exact hlt
      obtain ⟨ga, oa, rfl, hga, hxa⟩ := ha (by omega)
      obtain ⟨gb, ob, rfl, hgb, hxb⟩ := hb (by omega)
      obtain ⟨⟨x1, x2⟩, hx⟩ : ∃ x, l[k]'hlt = x := ⟨_, rfl⟩
      obtain ⟨⟨y1, y2⟩, hy⟩ : ∃ x, l'[k]'hlt' = x := ⟨_, rfl⟩
      have hx0 := hxa k _ (List.getElem?_eq_getElem hlt)
      have hy0 := hxb k _ (List.getElem?_eq_getElem hlt')
      rw [hx] at hx0
      rw [hy] at hy0
      have p1 : wr.cell? ⟨ga, oa + k * 2, none⟩ = some (.int .i64 x1) := (hbel.cell (p := ⟨ga, oa + k * 2, none⟩) hga).trans hx0.1
      have p2 : wr.cell? ⟨ga, oa + k * 2 + 1, none⟩ = some (.int .i64 x2) := (hbel.cell (p := ⟨ga, oa + k * 2 + 1, none⟩) hga).trans hx0.2
      have p3 : wr.cell? ⟨gb, ob + k * 2, none⟩ = some (.int .i64 y1) := (hbel.cell (p := ⟨gb, ob + k * 2, none⟩) hgb).trans hy0.1
      have p4 : wr.cell? ⟨gb, ob + k * 2 + 1, none⟩ = some (.int .i64 y2) := (hbel.cell (p := ⟨gb, ob + k * 2 + 1, none⟩) hgb).trans hy0.2
      clear hx0 hy0 hxa hxb ha hb
      have HX := Lib.hid hx
      have HY := Lib.hid hy
      clear hx hy
      go_upto_region 6 with fail
      refine wp_region_calm0 (by kernel_rfl) (by kernel_rfl) fun M => ?_
      have q1 := fun n : In M.w => n.cell (M.cell p1)
      have q2 := fun n : In M.w => n.cell (M.cell p2)
      have q3 := fun n : In M.w => n.cell (M.cell p3)
      have q4 := fun n : In M.w => n.cell (M.cell p4)
      have hneq : (x1, x2) ≠ (y1, y2) → l ≠ l' := by
        intro h e
        subst e
        exact h (HX.out.symm.trans HY.out)
      have hcase : (x1 = y1 ∧ x2 = y2) ∨ ((x1 == y1) = false ∧ l ≠ l') ∨ (x1 = y1 ∧ (x2 == y2) = false ∧ l ≠ l') := by
        by_cases e1 : x1 = y1
        · by_cases e2 : x2 = y2
          · exact .inl ⟨e1, e2⟩
          · exact .inr (.inr ⟨e1, beq_no' e2, hneq fun h => e2 (congrArg Prod.snd h)⟩)
        · exact .inr (.inl ⟨beq_no' e1, hneq fun h => e1 (congrArg Prod.fst h)⟩)
      clear hneq
      rcases hcase with ⟨rfl, rfl⟩ | ⟨h1, h2⟩ | ⟨rfl, h1, h2⟩
      · repeat (go_big_quiet_step (fail))
        refine wpQuiet_nil ?_
        intro w1 hb1
        clear q1 q2 q3 q4 M
        go_wp2
        go_roundw
        case rel => exact ⟨k + 1, by omega, by go_num, hbel.trans (hb1.mono hbel.size), by rw [List.take_add_one, List.take_add_one, HS.out, List.getElem?_eq_getElem hlt, List.getElem?_eq_getElem hlt', HX.out, HY.out]⟩
        case measure => simp [intOf]; omega
      all_goals
        have H2 := Lib.hid h2
        clear h2
        repeat (go_big_quiet_step (fail))
        refine wpQuiet_nil ?_
        intro w1 hb1
        clear q1 q2 q3 q4 M
        go_wp2
        go_ret
        exact ⟨ret_b (decide_eq_false H2.out).symm, hbel.trans (hb1.mono hbel.size)⟩
    · clear ha hb
      go_wp2
      go_ret
      have e : l = l' := by
        have h := HS.out
        rw [List.take_of_length_le (by omega), List.take_of_length_le (by have := HL.out; omega)] at h
        exact h
      exact ⟨ret_b (decide_eq_true e).symm, hbel⟩

/-- steps on and back, together -/
def stps : List (Int × Int) → Int
  | [] => 0
  | m :: l => (if m.1 = 1 ∨ m.1 = 2 then cnt m else 0) + stps l
theorem stps_append (a b : List (Int × Int)) : stps (a ++ b) = stps a + stps b := by
  induction a with
  | nil => simp [stps]
  | cons m a ih => simp only [List.cons_append, stps, ih]; omega
theorem stps_nn (l : List (Int × Int)) : 0 ≤ stps l := by
  induction l with
  | nil => simp [stps]
  | cons m l ih => have := cnt_bd m; unfold stps; split <;> omega
theorem stps_take (l : List (Int × Int)) (k : Nat) : stps (l.take k) ≤ stps l := by
  have h := stps_append (l.take k) (l.drop k)
  rw [List.take_append_drop] at h
  have := stps_nn (l.drop k)
  omega
theorem stps_succ (l : List (Int × Int)) (k : Nat) (h : k < l.length) : stps (l.take (k + 1)) = stps (l.take k) + (if (l[k]).1 = 1 ∨ (l[k]).1 = 2 then cnt l[k] else 0) := by
  rw [List.take_add_one, List.getElem?_eq_getElem h, stps_append]
  simp [stps]
theorem stps_le (l : List (Int × Int)) (k : Nat) : stps (l.take k) ≤ 1048576 * k := by
  induction k with
  | zero => simp [stps]
  | succ k ih =>
    by_cases h : k < l.length
    · rw [stps_succ l k h]
      have := cnt_bd l[k]
      split <;> omega
    · rw [List.take_of_length_le (by omega)]
      rw [List.take_of_length_le (by omega)] at ih
      omega

end Go.Proofs.Ythndmoipemnllaa
