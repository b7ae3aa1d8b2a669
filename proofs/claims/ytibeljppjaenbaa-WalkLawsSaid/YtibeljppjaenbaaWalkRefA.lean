/- The walks of the document's answers for layer 5: counts, what is the same, what is near. -/
import Derived.Test.YtibeljppjaenbaaPairsAt
import Derived.Test.YtibeljppjaenbaaGaussR
import Derived.Deep.DeepCutAuto
namespace Go.Proofs.Ytibeljppjaenbaa
open Go.RowKit

/-- how often a move is done -/
def cnt (m : Int × Int) : Int := if m.1 < 1 ∨ 4 < m.1 then 0 else max 0 (min m.2 1048576)
theorem cnt_bd (m : Int × Int) : 0 ≤ cnt m ∧ cnt m ≤ 1048576 := by unfold cnt; split <;> omega

theorem refCount_any (k n : Int) (w : World) : Calls Try.prog 32 #[.agg #[.int .i64 k, .int .i64 n]] w fun e w' => e = .returned (.int .i64 (cnt (k, n))) ∧ Below w.heap.size w w' := by
  have hB : Below w.heap.size w (w.alloc (.cells #[.int .i64 k, .int .i64 n] 48)) := (Below.refl _ _).alloc (Nat.le_refl _) _
  by_cases h1 : k < 1
  · have e : cnt (k, n) = 0 := by unfold cnt; rw [if_pos (.inl h1)]
    rw [e]
    go_enter Try.func32, Try.ntmps32
    go_wp2
    go_ret
    exact ⟨rfl, hB⟩
  · by_cases h2 : 4 < k
    · have e : cnt (k, n) = 0 := by unfold cnt; rw [if_pos (.inr h2)]
      rw [e]
      go_enter Try.func32, Try.ntmps32
      go_wp2
      go_ret
      exact ⟨rfl, hB⟩
    · have e : cnt (k, n) = max 0 (min n 1048576) := by unfold cnt; rw [if_neg (by simp only; omega)]
      rw [e]
      go_enter Try.func32, Try.ntmps32
      go_wp2_with (go_at_call 59; refine (refClip3_any _ _ _ (by omega) _).mono ?_; rintro e w1 ⟨rfl, rfl⟩)
      go_ret
      exact ⟨rfl, hB⟩

theorem beq_no' {a b : Int} (h : a ≠ b) : (a == b) = false := by simp [h]

set_option maxHeartbeats 1000000 in
theorem refSame_any (va vb : Value) (l l' : List (Int × Int)) (w : World) (ha : PairsAt w va l) (hb : PairsAt w vb l') (hl : l.length ≤ 9223372036854775807) (hl' : l'.length ≤ 9223372036854775807) :
    Calls Try.prog 13 #[va, vb] w fun e w' => e = .returned (.bool (decide (l = l'))) ∧ Below w.heap.size w w' := by
  obtain ⟨a, ca, rfl, hca, ha⟩ := ha
  obtain ⟨b, cb, rfl, hcb, hb⟩ := hb
  by_cases hlen : l.length = l'.length
  case neg =>
    have hne : ((l.length : Nat) : Int) ≠ ((l'.length : Nat) : Int) := by omega
    rw [decide_eq_false (fun h => hlen (congrArg List.length h))]
    have h1 := beq_no' hne
    go_enter Try.func13, Try.ntmps13
    go_wp2
    go_ret
    exact ⟨rfl, Below.refl _ _⟩
  have HL := Lib.hid hlen
  rw [← hlen] at hb hl' hcb ⊢
  clear hlen
  go_enter Try.func13, Try.ntmps13
  go_wp2
  go_loopw [5] (fun i wr => ∃ k : Nat, k ≤ l.length ∧ i = .int .i64 k ∧ Below w.heap.size w wr ∧ l.take k = l'.take k) (fun i _ => l.length - (intOf i).toNat)
  case atStart => exact ⟨0, Nat.zero_le _, rfl, Below.refl _ _, rfl⟩
  case round =>
    obtain ⟨k, hk, rfl, hbel, hsame⟩ := hrel
    have HS := Lib.hid hsame
    clear hsame
    by_cases hlt : k < l.length
    · have hlt' : k < l'.length := by rw [← HL.out]; exact hlt
      obtain ⟨ga, oa, rfl, hga, hxa⟩ := ha (by omega)
      obtain ⟨gb, ob, rfl, hgb, hxb⟩ := hb (by omega)
      obtain ⟨⟨x1, x2⟩, hx⟩ : ∃ x, l[k]'hlt = x := ⟨_, rfl⟩
      obtain ⟨⟨y1, y2⟩, hy⟩ : ∃ x, l'[k]'hlt' = x := ⟨_, rfl⟩
      have hx0 := hxa k _ (List.getElem?_eq_getElem hlt)
      have hy0 := hxb k _ (List.getElem?_eq_getElem hlt')
      rw [hx] at hx0
      rw [hy] at hy0
      have p1 : wr.cell? ⟨ga, oa + k * 2, none⟩ = some (.int .i64 x1) := (hbel.cell (p := ⟨ga, oa + k * 2, none⟩) hga).trans hx0.1
      have p2 : wr.cell? ⟨ga, oa + k * 2 + 1, none⟩ = some (.int .i64 x2) := (hbel.cell (p := ⟨ga, oa + k * 2 + 1, none⟩) hga).trans hx0.2
      have p3 : wr.cell? ⟨gb, ob + k * 2, none⟩ = some (.int .i64 y1) := (hbel.cell (p := ⟨gb, ob + k * 2, none⟩) hgb).trans hy0.1
      have p4 : wr.cell? ⟨gb, ob + k * 2 + 1, none⟩ = some (.int .i64 y2) := (hbel.cell (p := ⟨gb, ob + k * 2 + 1, none⟩) hgb).trans hy0.2
      clear hx0 hy0 hxa hxb ha hb
      have HX := Lib.hid hx
      have HY := Lib.hid hy
      clear hx hy
      go_upto_region 6 with fail
      refine wp_region_calm0 (by kernel_rfl) (by kernel_rfl) fun M => ?_
      have q1 := fun n : In M.w => n.cell (M.cell p1)
      have q2 := fun n : In M.w => n.cell (M.cell p2)
      have q3 := fun n : In M.w => n.cell (M.cell p3)
      have q4 := fun n : In M.w => n.cell (M.cell p4)
      have hneq : (x1, x2) ≠ (y1, y2) → l ≠ l' := by
        intro h e
        subst e
        exact h (HX.out.symm.trans HY.out)
      have hcase : (x1 = y1 ∧ x2 = y2) ∨ ((x1 == y1) = false ∧ l ≠ l') ∨ (x1 = y1 ∧ (x2 == y2) = false ∧ l ≠ l') := by
        by_cases e1 : x1 = y1
        · by_cases e2 : x2 = y2
          · exact .inl ⟨e1, e2⟩
          · exact .inr (.inr ⟨e1, beq_no' e2, hneq fun h => e2 (congrArg Prod.snd h)⟩)
        · exact .inr (.inl ⟨beq_no' e1, hneq fun h => e1 (congrArg Prod.fst h)⟩)
      clear hneq
      rcases hcase with ⟨rfl, rfl⟩ | ⟨h1, h2⟩ | ⟨rfl, h1, h2⟩
      · repeat (go_big_quiet_step (fail))
        refine wpQuiet_nil ?_
        intro w1 hb1
        clear q1 q2 q3 q4 M
        go_wp2
        go_roundw
        case rel => exact ⟨k + 1, by omega, by go_num, hbel.trans (hb1.mono hbel.size), by rw [List.take_add_one, List.take_add_one, HS.out, List.getElem?_eq_getElem hlt, List.getElem?_eq_getElem hlt', HX.out, HY.out]⟩
        case measure => simp [intOf]; omega
      all_goals
        have H2 := Lib.hid h2
        clear h2
        repeat (go_big_quiet_step (fail))
        refine wpQuiet_nil ?_
        intro w1 hb1
        clear q1 q2 q3 q4 M
        go_wp2
        go_ret
        exact ⟨ret_b (decide_eq_false H2.out).symm, hbel.trans (hb1.mono hbel.size)⟩
    · clear ha hb
      go_wp2
      go_ret
      have e : l = l' := by
        have h := HS.out
        rw [List.take_of_length_le (by omega), List.take_of_length_le (by have := HL.out; omega)] at h
        exact h
      exact ⟨ret_b (decide_eq_true e).symm, hbel⟩
set_option maxHeartbeats 1000000 in
theorem refPoints_any (va vb : Value) (l l' : List (Int × Int)) (w : World) (ha : PairsAt w va l) (hb : PairsAt w vb l') (hl : l.length ≤ 9223372036854775807) (hl' : l'.length ≤ 9223372036854775807) :
    Calls Try.prog 18 #[va, vb] w fun e w' => e = .returned (.bool (decide (l = l'))) ∧ Below w.heap.size w w' := by
  obtain ⟨a, ca, rfl, hca, ha⟩ := ha
  obtain ⟨b, cb, rfl, hcb, hb⟩ := hb
  by_cases hlen : l.length = l'.length
  case neg =>
    have hne : ((l.length : Nat) : Int) ≠ ((l'.length : Nat) : Int) := by omega
    rw [decide_eq_false (fun h => hlen (congrArg List.length h))]
    have h1 := beq_no' hne
    go_enter Try.func18, Try.ntmps18
    go_wp2
    go_ret
    exact ⟨rfl, Below.refl _ _⟩
  have HL := Lib.hid hlen
  rw [← hlen] at hb hl' hcb ⊢
  clear hlen
  go_enter Try.func18, Try.ntmps18
  go_wp2
  go_loopw [5] (fun i wr => ∃ k : Nat, k ≤ l.length ∧ i = .int .i64 k ∧ Below w.heap.size w wr ∧ l.take k = l'.take k) (fun i _ => l.length - (intOf i).toNat)
  case atStart => exact ⟨0, Nat.zero_le _, rfl, Below.refl _ _, rfl⟩
  case round =>
    obtain ⟨k, hk, rfl, hbel, hsame⟩ := hrel
    have HS := Lib.hid hsame
    clear hsame
    by_cases hlt : k < l.length
    · have hlt' : k < l'.length := by rw [← HL.out]; exact hlt
      obtain ⟨ga, oa, rfl, hga, hxa⟩ := ha (by omega)
      obtain ⟨gb, ob, rfl, hgb, hxb⟩ := hb (by omega)
      obtain ⟨⟨x1, x2⟩, hx⟩ : ∃ x, l[k]'hlt = x := ⟨_, rfl⟩
      obtain ⟨⟨y1, y2⟩, hy⟩ : ∃ x, l'[k]'hlt' = x := ⟨_, rfl⟩
      have hx0 := hxa k _ (List.getElem?_eq_getElem hlt)
      have hy0 := hxb k _ (List.getElem?_eq_getElem hlt')
      rw [hx] at hx0
      rw [hy] at hy0
      have p1 : wr.cell? ⟨ga, oa + k * 2, none⟩ = some (.int .i64 x1) := (hbel.cell (p := ⟨ga, oa + k * 2, none⟩) hga).trans hx0.1
      have p2 : wr.cell? ⟨ga, oa + k * 2 + 1, none⟩ = some (.int .i64 x2) := (hbel.cell (p := ⟨ga, oa + k * 2 + 1, none⟩) hga).trans hx0.2
      have p3 : wr.cell? ⟨gb, ob + k * 2, none⟩ = some (.int .i64 y1) := (hbel.cell (p := ⟨gb, ob + k * 2, none⟩) hgb).trans hy0.1
      have p4 : wr.cell? ⟨gb, ob + k * 2 + 1, none⟩ = some (.int .i64 y2) := (hbel.cell (p := ⟨gb, ob + k * 2 + 1, none⟩) hgb).trans hy0.2
      clear hx0 hy0 hxa hxb ha hb
      have HX := Lib.hid hx
      have HY := Lib.hid hy
      clear hx hy
      go_upto_region 6 with fail
      refine wp_region_calm0 (by kernel_rfl) (by kernel_rfl) fun M => ?_
      have q1 := fun n : In M.w => n.cell (M.cell p1)
      have q2 := fun n : In M.w => n.cell (M.cell p2)
      have q3 := fun n : In M.w => n.cell (M.cell p3)
      have q4 := fun n : In M.w => n.cell (M.cell p4)
      have hneq : (x1, x2) ≠ (y1, y2) → l ≠ l' := by
        intro h e
        subst e
        exact h (HX.out.symm.trans HY.out)
      have hcase : (x1 = y1 ∧ x2 = y2) ∨ ((x1 == y1) = false ∧ l ≠ l') ∨ (x1 = y1 ∧ (x2 == y2) = false ∧ l ≠ l') := by
        by_cases e1 : x1 = y1
        · by_cases e2 : x2 = y2
          · exact .inl ⟨e1, e2⟩
          · exact .inr (.inr ⟨e1, beq_no' e2, hneq fun h => e2 (congrArg Prod.snd h)⟩)
        · exact .inr (.inl ⟨beq_no' e1, hneq fun h => e1 (congrArg Prod.fst h)⟩)
      clear hneq
      rcases hcase with ⟨rfl, rfl⟩ | ⟨h1, h2⟩ | ⟨rfl, h1, h2⟩
      · repeat (go_big_quiet_step (fail))
        refine wpQuiet_nil ?_
        intro w1 hb1
        clear q1 q2 q3 q4 M
        go_wp2
        go_roundw
        case rel => exact ⟨k + 1, by omega, by go_num, hbel.trans (hb1.mono hbel.size), by rw [List.take_add_one, List.take_add_one, HS.out, List.getElem?_eq_getElem hlt, List.getElem?_eq_getElem hlt', HX.out, HY.out]⟩
        case measure => simp [intOf]; omega
      all_goals
        have H2 := Lib.hid h2
        clear h2
        repeat (go_big_quiet_step (fail))
        refine wpQuiet_nil ?_
        intro w1 hb1
        clear q1 q2 q3 q4 M
        go_wp2
        go_ret
        exact ⟨ret_b (decide_eq_false H2.out).symm, hbel.trans (hb1.mono hbel.size)⟩
    · clear ha hb
      go_wp2
      go_ret
      have e : l = l' := by
        have h := HS.out
        rw [List.take_of_length_le (by omega), List.take_of_length_le (by have := HL.out; omega)] at h
        exact h
      exact ⟨ret_b (decide_eq_true e).symm, hbel⟩

/-- steps on and back, together -/
def stps : List (Int × Int) → Int
  | [] => 0
  | m :: l => (if m.1 = 1 ∨ m.1 = 2 then cnt m else 0) + stps l
theorem stps_append (a b : List (Int × Int)) : stps (a ++ b) = stps a + stps b := by
  induction a with
  | nil => simp [stps]
  | cons m a ih => simp only [List.cons_append, stps, ih]; omega
theorem stps_nn (l : List (Int × Int)) : 0 ≤ stps l := by
  induction l with
  | nil => simp [stps]
  | cons m l ih => have := cnt_bd m; unfold stps; split <;> omega
theorem stps_take (l : List (Int × Int)) (k : Nat) : stps (l.take k) ≤ stps l := by
  have h := stps_append (l.take k) (l.drop k)
  rw [List.take_append_drop] at h
  have := stps_nn (l.drop k)
  omega
theorem stps_succ (l : List (Int × Int)) (k : Nat) (h : k < l.length) : stps (l.take (k + 1)) = stps (l.take k) + (if (l[k]).1 = 1 ∨ (l[k]).1 = 2 then cnt l[k] else 0) := by
  rw [List.take_add_one, List.getElem?_eq_getElem h, stps_append]
  simp [stps]
theorem stps_le (l : List (Int × Int)) (k : Nat) : stps (l.take k) ≤ 1048576 * k := by
  induction k with
  | zero => simp [stps]
  | succ k ih =>
    by_cases h : k < l.length
    · rw [stps_succ l k h]
      have := cnt_bd l[k]
      split <;> omega
    · rw [List.take_of_length_le (by omega)]
      rw [List.take_of_length_le (by omega)] at ih
      omega

set_option maxHeartbeats 1000000 in
theorem refNear_any (va : Value) (l : List (Int × Int)) (m : Int) (w : World) (ha : PairsAt w va l) (hl : l.length ≤ 1000000) (hm : 0 ≤ m) (hm' : m ≤ 9223372036854775807) :
    Calls Try.prog 23 #[va, .int .i64 m] w fun e w' => e = .returned (.bool (decide (stps l ≤ m))) ∧ Below w.heap.size w w' := by
  have ha0 := ha
  obtain ⟨a, ca, rfl, hca, ha⟩ := ha
  go_enter Try.func23, Try.ntmps23
  go_wp2
  go_loopw [5, 6] (fun n i wr => ∃ (k : Nat) (z : Int), k ≤ l.length ∧ i = .int .i64 k ∧ n = .int .i64 z ∧ stps (l.take k) = z ∧ z ≤ m ∧ Below w.heap.size w wr) (fun _ i _ => l.length - (intOf i).toNat)
  case atStart => exact ⟨0, 0, Nat.zero_le _, rfl, rfl, rfl, hm, Below.refl _ _⟩
  case round =>
    obtain ⟨k, z, hk, rfl, rfl, hz, hzm, hbel⟩ := hrel
    have HZ := Lib.hid hz
    have z0 : 0 ≤ z := by rw [← hz]; exact stps_nn _
    have z1 : z ≤ 1048576 * k := by rw [← hz]; exact stps_le _ _
    clear hz
    by_cases hlt : k < l.length
    · obtain ⟨ga, oa, rfl, hga, hxa⟩ := ha (by omega)
      obtain ⟨⟨x1, x2⟩, hx⟩ : ∃ x, l[k]'hlt = x := ⟨_, rfl⟩
      have hx0 := hxa k _ (List.getElem?_eq_getElem hlt)
      rw [hx] at hx0
      have p1 : wr.cell? ⟨ga, oa + k * 2, none⟩ = some (.int .i64 x1) := (hbel.cell (p := ⟨ga, oa + k * 2, none⟩) hga).trans hx0.1
      have p2 : wr.cell? ⟨ga, oa + k * 2 + 1, none⟩ = some (.int .i64 x2) := (hbel.cell (p := ⟨ga, oa + k * 2 + 1, none⟩) hga).trans hx0.2
      have hsucc := stps_succ l k hlt
      rw [hx] at hsucc
      have cb := cnt_bd (x1, x2)
      have hc := fun w => refCount_any x1 x2 w
      obtain ⟨c, hcc⟩ : ∃ c, cnt (x1, x2) = c := ⟨_, rfl⟩
      rw [hcc] at hsucc cb hc
      rw [HZ.out] at hsucc
      have HC := Lib.hid hc
      clear hx0 hxa ha ha0 hc hx hcc
      have hk6 : (k : Int) ≤ 1000000 := by omega
      obtain ⟨c0, c1⟩ := cb
      have hkind : (x1 = 1 ∨ x1 = 2) ∨ ((x1 == 1) = false ∧ (x1 == 2) = false) := by
        by_cases e1 : x1 = 1
        · exact .inl (.inl e1)
        · by_cases e2 : x1 = 2
          · exact .inl (.inr e2)
          · exact .inr ⟨beq_no' e1, beq_no' e2⟩
      rcases hkind with hkd | ⟨e1, e2⟩
      · rw [if_pos hkd] at hsucc
        have HS := Lib.hid hsucc
        clear hsucc
        by_cases hov : m < z + c
        · have hbig : m < stps l := by have h1 := stps_take l (k + 1); have := HS.out; omega
          have HBIG := Lib.hid hbig
          clear hbig
          rcases hkd with rfl | rfl
          all_goals
            go_wp2_with (go_at_call 32; refine (HC.out _).mono ?_; rintro e w1 ⟨rfl, hb1⟩)
            go_ret
            exact ⟨ret_b (decide_eq_false (Int.not_le.2 HBIG.out)).symm, hbel.trans (hb1.mono hbel.size)⟩
        · rcases hkd with rfl | rfl
          all_goals
            go_wp2_with (go_at_call 32; refine (HC.out _).mono ?_; rintro e w1 ⟨rfl, hb1⟩; clear p1 p2)
            go_roundw
            case rel => exact ⟨k + 1, z + c, by omega, by go_num, rfl, HS.out, by omega, hbel.trans (hb1.mono hbel.size)⟩
            case measure => simp [intOf]; omega
      · have e1' : x1 ≠ 1 := by simpa using e1
        have e2' : x1 ≠ 2 := by simpa using e2
        rw [if_neg (by omega), Int.add_zero] at hsucc
        have HS := Lib.hid hsucc
        have hzm' : ¬ m < z := by omega
        clear hsucc
        go_wp2
        go_roundw
        case rel => exact ⟨k + 1, z, by omega, by go_num, rfl, HS.out, by omega, hbel⟩
        case measure => simp [intOf]; omega
    · clear ha ha0
      go_wp2
      go_ret
      have e : stps l ≤ m := by
        have h := HZ.out
        rw [List.take_of_length_le (by omega)] at h
        omega
      exact ⟨ret_b (decide_eq_true e).symm, hbel⟩
end Go.Proofs.Ytibeljppjaenbaa
