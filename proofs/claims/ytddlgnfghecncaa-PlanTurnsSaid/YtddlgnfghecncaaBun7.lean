/- Texts of this proof, joined: OwnInts; PlanRefF; PlanRefG; PlanRefH; PlanD; PlanE. -/
import Derived.Test.YtddlgnfghecncaaBun6
/- Lists of numbers that a call gathers; are two lists of numbers the same. -/
namespace Go.Proofs.Ytddlgnfghecncaa
open Go.RowKit

def csI (n : Int) : List Value := [.int .i64 n]
theorem csI_len (n : Int) : (csI n).length = 1 := rfl
theorem info_int : (Try.prog.info? 3).map (fun i => (i.zero, i.size, i.bytes)) = some (some (.int .i64 0), 1, 8) := by kernel_rfl
theorem IntsAt.rows {w : World} {v : Value} {l : List Int} (h : IntsAt w v l) : RowsAt w 1 csI v l := by
  obtain ⟨a, cap, e, hc, h⟩ := h
  refine ⟨a, cap, e, hc, fun h0 => ?_⟩
  obtain ⟨g, o, e1, hg, hx⟩ := h h0
  refine ⟨g, o, e1, hg, fun j x hj i u hu => ?_⟩
  have h0 : i = 0 ∧ u = .int .i64 x := by
    cases i with
    | zero => simp [csI] at hu; exact ⟨rfl, hu.symm⟩
    | succ i => simp [csI] at hu
  obtain ⟨rfl, rfl⟩ := h0
  rw [Nat.mul_one, Nat.add_zero]
  exact hx j x hj
theorem RowsAt.ints {w : World} {v : Value} {l : List Int} (h : RowsAt w 1 csI v l) : IntsAt w v l := by
  obtain ⟨a, cap, e, hc, h⟩ := h
  refine ⟨a, cap, e, hc, fun h0 => ?_⟩
  obtain ⟨g, o, e1, hg, hx⟩ := h h0
  refine ⟨g, o, e1, hg, fun j x hj => ?_⟩
  have := hx j x hj 0 _ rfl
  rwa [Nat.mul_one, Nat.add_zero] at this
/-- numbers that the call gathers by itself -/
abbrev OwnI (w : World) (B : Nat) (v : Value) (l : List Int) : Prop := OwnR w B 3 1 csI v l
theorem OwnI.ints {w : World} {B : Nat} {v : Value} {l : List Int} (h : OwnI w B v l) : IntsAt w v l := (OwnR.rows csI_len h).ints
theorem IntsAt.form {w : World} {v : Value} {l : List Int} (h : IntsAt w v l) : ∃ a c, v = .slice a l.length c := by
  obtain ⟨a, c, e, _⟩ := h
  exact ⟨a, c, e⟩
theorem IntsAt.spot {w : World} {v : Value} {l : List Int} (h : IntsAt w v l) (k : Nat) (hk : k < l.length) : ∃ g o c, v = .slice (some ⟨g, o, none⟩) l.length c ∧ l.length ≤ c ∧ g < w.heap.size ∧ w.cell? ⟨g, o + k, none⟩ = some (.int .i64 l[k]) := by
  obtain ⟨a, c, rfl, hc, hx⟩ := h
  obtain ⟨g, o, rfl, hg, hxa⟩ := hx (by omega)
  exact ⟨g, o, c, rfl, hc, hg, hxa k _ (List.getElem?_eq_getElem hk)⟩

set_option maxHeartbeats 2000000 in
set_option maxRecDepth 100000 in
theorem refInts_any (va vb : Value) (l r : List Int) (w : World) (ha : IntsAt w va l) (hb : IntsAt w vb r) (hl : l.length ≤ 1000000) (hr : r.length ≤ 1000000) :
    Calls Try.prog 18 #[va, vb] w fun e w' => e = .returned (.bool (decide (l = r))) ∧ Below w.heap.size w w' := by
  obtain ⟨a, c, rfl⟩ := ha.form
  obtain ⟨b, d, rfl⟩ := hb.form
  have HA := Lib.hid ha
  have HB := Lib.hid hb
  clear ha hb
  by_cases hne : l.length = r.length
  · go_enter Try.func18, Try.ntmps18
    rw [← hne]
    have HNE := Lib.hid hne
    clear hne
    go_wp2
    go_loopw [5] (fun i wr => ∃ k : Nat, k ≤ l.length ∧ i = .int .i64 k ∧ Below w.heap.size w wr ∧ ∀ i (h : i < l.length) (h' : i < r.length), i < k → l[i] = r[i]) (fun i _ => l.length - (intOf i).toNat)
    case atStart => exact ⟨0, Nat.zero_le _, rfl, Below.refl _ _, fun i _ _ hi => absurd hi (by omega)⟩
    case round =>
      obtain ⟨k, hk, rfl, hB, hs⟩ := hrel
      have HS := Lib.hid hs
      clear hs
      by_cases hlt : k < l.length
      · have hlt' : k < r.length := by have := HNE.out; omega
        obtain ⟨g, o, c', ev, hc, hg, p0⟩ := (HA.out.below hB).spot k hlt
        cases ev
        obtain ⟨g', o', c', ev, hc', hg', q0⟩ := (HB.out.below hB).spot k hlt'
        rw [← HNE.out] at ev hc'
        cases ev
        have j0 : (0 : Int) ≤ (k : Int) := by omega
        have j1 : (k : Int) < (l.length : Int) := by omega
        obtain ⟨x, hx⟩ : ∃ x, l[k] = x := ⟨_, rfl⟩
        obtain ⟨y, hy⟩ : ∃ y, r[k] = y := ⟨_, rfl⟩
        rw [hx] at p0
        rw [hy] at q0
        have HX := Lib.hid hx
        have HY := Lib.hid hy
        clear hx hy
        by_cases he : x = y
        · subst he
          go_wp2
          refine wp_region_calm0 (by kernel_rfl) (by kernel_rfl) fun M => ?_
          have e0 := fun n : In M.w => n.cell (M.cell p0)
          have f0 := fun n : In M.w => n.cell (M.cell q0)
          repeat (go_big_quiet_step (fail))
          refine wpQuiet_nil ?_
          intro w1 hb
          replace hB := hB.trans (hb.mono hB.size)
          clear e0 f0 M hb p0 q0
          go_wp2
          go_roundw
          case rel =>
            refine ⟨k + 1, by omega, by go_num, hB, fun i h h' hi => ?_⟩
            by_cases e : i = k
            · subst e
              rw [HX.out, HY.out]
            · exact HS.out i h h' (by omega)
          case measure => simp [intOf]; omega
        · have HN := Lib.hid (decide_eq_false (fun e : l = r => he (by rw [← HX.out, ← HY.out]; simp only [e])))
          have m0 : (x != y) = true := by simp [bne, he]
          have m1 := beq_no' he
          clear he
          go_wp2
          refine wp_region_calm0 (by kernel_rfl) (by kernel_rfl) fun M => ?_
          have e0 := fun n : In M.w => n.cell (M.cell p0)
          have f0 := fun n : In M.w => n.cell (M.cell q0)
          repeat (go_big_quiet_step (fail))
          refine wpQuiet_nil ?_
          intro w1 hb
          replace hB := hB.trans (hb.mono hB.size)
          clear e0 f0 M hb p0 q0
          go_wp2
          go_ret
          exact ⟨ret_b HN.out.symm, hB⟩
      · have hk2 : k = l.length := by omega
        have hd : decide (l = r) = true := decide_eq_true (List.ext_getElem HNE.out fun i h1 h2 => HS.out i h1 h2 (by omega))
        have HD := Lib.hid hd
        clear hk hk2 hd
        go_wp2
        go_ret
        exact ⟨ret_b HD.out.symm, hB⟩
  · have e : decide (l = r) = false := decide_eq_false fun h => hne (by rw [h])
    have h2 : ((l.length : Int) == (r.length : Int)) = false := beq_no' (by omega)
    rw [e]
    go_enter Try.func18, Try.ntmps18
    go_wp2
    go_ret
    exact ⟨rfl, Below.refl _ _⟩
end Go.Proofs.Ytddlgnfghecncaa
/- The walks of the document's answers for layer 7: a number in a list that rises. -/
namespace Go.Proofs.Ytddlgnfghecncaa
open Go.RowKit

theorem putR_at (n : Int) (l : List Int) (k : Nat) (h : k < l.length) (d : Bool) : putR n (l.drop k) d = (if d = false ∧ n ≤ l[k] then [n] else []) ++ (if l[k] ≠ n then [l[k]] else []) ++ putR n (l.drop (k + 1)) (d || decide (n ≤ l[k])) := by
  rw [List.drop_eq_getElem_cons h]
  rfl

set_option maxHeartbeats 4000000 in
set_option maxRecDepth 100000 in
theorem refPut_any (va : Value) (l : List Int) (n : Int) (w : World) (ha : IntsAt w va l) (hl : l.length ≤ 1000000) :
    Calls Try.prog 44 #[va, .int .i64 n] w fun e w' => ∃ v, e = .returned v ∧ IntsAt w' v (putR n l false) ∧ Below w.heap.size w w' := by
  obtain ⟨i0, hi, hz0, hz1, hz2⟩ := info_parts info_int
  obtain ⟨a, c, rfl⟩ := ha.form
  have HA := Lib.hid ha
  clear ha
  go_enter Try.func44, Try.ntmps44
  go_wp2
  go_loopw [5, 6, 7] (fun v dn i wr => ∃ (k : Nat) (d : Bool) (pre : List Int), k ≤ l.length ∧ i = .int .i64 k ∧ dn = .bool d ∧ putR n l false = pre ++ putR n (l.drop k) d ∧ pre.length ≤ 2 * k ∧ OwnI wr w.heap.size v pre ∧ Below w.heap.size w wr) (fun _ _ i _ => l.length - (intOf i).toNat)
  case atStart => exact ⟨0, false, [], Nat.zero_le _, rfl, rfl, by simp, Nat.zero_le _, OwnR.nil _ _ _ _ _, Below.refl _ _⟩
  case round =>
    obtain ⟨k, d, pre, hk, rfl, rfl, hp, hpl, hown, hB⟩ := hrel
    have HO := Lib.hid hown
    have hsz := hB.size
    have hpn : pre.length ≤ 2000000 := by omega
    clear hown
    by_cases hlt : k < l.length
    · rw [putR_at n l k hlt d] at hp
      obtain ⟨g, o, c', ev, hc, hg, pw⟩ := HA.out.spot k hlt
      cases ev
      have p0 := (hB.cell (p := ⟨g, o + k, none⟩) hg).trans pw
      have PW := Lib.hid pw
      clear pw
      have j0 : (0 : Int) ≤ (k : Int) := by omega
      have j1 : (k : Int) < (l.length : Int) := by omega
      obtain ⟨x, hx⟩ : ∃ x, l[k] = x := ⟨_, rfl⟩
      rw [hx] at p0 hp PW
      clear hx
      have hP := hp
      clear hp
      have hz1' : w.heap.size ≤ (wr.alloc (.cells #[.int .i64 n] 3)).heap.size := by simp; omega
      have hz1x : w.heap.size ≤ (wr.alloc (.cells #[.int .i64 x] 3)).heap.size := by simp; omega
      have hBn := hB.alloc hsz (.cells #[.int .i64 n] 3)
      have hBx := hB.alloc hsz (.cells #[.int .i64 x] 3)
      have HOn := Lib.hid (HO.out.alloc (.cells #[.int .i64 n] 3))
      have HOx := Lib.hid (HO.out.alloc (.cells #[.int .i64 x] 3))
      have HHn := Lib.hid (heap_alloc_new wr (.cells #[.int .i64 n] 3))
      have HHx := Lib.hid (heap_alloc_new wr (.cells #[.int .i64 x] 3))
      cases d with
      | true =>
        by_cases hxn : x = n
        · subst hxn
          rw [if_neg (by simp), if_neg (by simp)] at hP
          have HP := Lib.hid hP
          clear hP HOn HOx HHn HHx hBn hBx
          go_wp2
          go_roundw
          case rel => exact ⟨k + 1, true, pre, by omega, by go_num, rfl, by simpa using HP.out, by omega, HO.out, hB⟩
          case measure => simp [intOf]; omega
        · rw [if_neg (by simp), if_pos hxn] at hP
          have HP := Lib.hid hP
          have m0 : (x != n) = true := by simp [bne, hxn]
          clear hP HOn HHn hBn hxn
          go_wp2_with (at_builtin; refine wpList_append_own _ rfl _ _ 37 rfl w.heap.size 3 i0 (.int .i64 0) 1 8 Try.underlying37 hi hz0 hz1 hz2 rfl (by decide) _ _ _ rfl HOx.out ⟨wr.heap.size, 0, none⟩ 1 1 [.int .i64 x] rfl rfl (World.news_of_block (cs := #[.int .i64 x]) HHx.out) (by intro u hu; simp at hu; subst hu; rfl) (by unfold maxLen; omega) (by omega) hz1x ?_)
          intro v' w3 h1 h2 _
          have hB4 := Lib.hid (OwnR.below HOx.out hBx hz1x h2)
          have HO3 := Lib.hid (show OwnI w3 w.heap.size v' (pre ++ [x]) from OwnR.snoc h1 rfl rfl)
          clear h1 h2 hBx
          go_wp2
          go_roundw
          case rel => exact ⟨k + 1, true, pre ++ [x], by omega, by go_num, rfl, by simpa using HP.out, by simp; omega, HO3.out, hB4.out⟩
          case measure => simp [intOf]; omega
      | false =>
        by_cases hle : n ≤ x
        · by_cases hxn : x = n
          · subst hxn
            rw [if_pos ⟨rfl, hle⟩, if_neg (by simp), decide_eq_true hle] at hP
            have HP := Lib.hid hP
            clear hP HOx HHx hBx hz1x hle
            go_wp2_with (at_builtin; refine wpList_append_own _ rfl _ _ 37 rfl w.heap.size 3 i0 (.int .i64 0) 1 8 Try.underlying37 hi hz0 hz1 hz2 rfl (by decide) _ _ _ rfl HOn.out ⟨wr.heap.size, 0, none⟩ 1 1 [.int .i64 x] rfl rfl (World.news_of_block (cs := #[.int .i64 x]) HHn.out) (by intro u hu; simp at hu; subst hu; rfl) (by unfold maxLen; omega) (by omega) hz1' ?_)
            intro v' w3 h1 h2 _
            have hB4 := OwnR.below HOn.out hBn hz1' h2
            have p3 := (hB4.cell (p := ⟨g, o + k, none⟩) hg).trans PW.out
            have HO3 := Lib.hid (show OwnI w3 w.heap.size v' (pre ++ [x]) from OwnR.snoc h1 rfl rfl)
            clear h1 h2 hBn p0
            go_wp2
            go_roundw
            case rel => exact ⟨k + 1, true, pre ++ [x], by omega, by go_num, rfl, by simpa using HP.out, by simp; omega, HO3.out, hB4⟩
            case measure => simp [intOf]; omega
          · rw [if_pos ⟨rfl, hle⟩, if_pos hxn, decide_eq_true hle] at hP
            have HP := Lib.hid hP
            have m0 : (x != n) = true := by simp [bne, hxn]
            clear hP HOx HHx hBx hz1x hxn
            go_wp2_with (at_builtin; refine wpList_append_own _ rfl _ _ 37 rfl w.heap.size 3 i0 (.int .i64 0) 1 8 Try.underlying37 hi hz0 hz1 hz2 rfl (by decide) _ _ _ rfl HOn.out ⟨wr.heap.size, 0, none⟩ 1 1 [.int .i64 n] rfl rfl (World.news_of_block (cs := #[.int .i64 n]) HHn.out) (by intro u hu; simp at hu; subst hu; rfl) (by unfold maxLen; omega) (by omega) hz1' ?_)
            intro v' w3 h1 h2 _
            have hB4 := OwnR.below HOn.out hBn hz1' h2
            have p3 := (hB4.cell (p := ⟨g, o + k, none⟩) hg).trans PW.out
            have HO3 := Lib.hid ((show OwnI w3 w.heap.size v' (pre ++ [n]) from OwnR.snoc h1 rfl rfl).alloc (.cells #[.int .i64 x] 3))
            have HH3 := Lib.hid (heap_alloc_new w3 (.cells #[.int .i64 x] 3))
            have hz3 : w.heap.size ≤ (w3.alloc (.cells #[.int .i64 x] 3)).heap.size := by have := hB4.size; simp; omega
            have hB5 := hB4.alloc hB4.size (.cells #[.int .i64 x] 3)
            have hpn2 : (pre ++ [n]).length ≤ 2000001 := by simp; omega
            clear h1 h2 hBn p0 HOn HHn
            go_wp2_with (at_builtin; refine wpList_append_own _ rfl _ _ 37 rfl w.heap.size 3 i0 (.int .i64 0) 1 8 Try.underlying37 hi hz0 hz1 hz2 rfl (by decide) _ _ _ rfl HO3.out ⟨w3.heap.size, 0, none⟩ 1 1 [.int .i64 x] rfl rfl (World.news_of_block (cs := #[.int .i64 x]) HH3.out) (by intro u hu; simp at hu; subst hu; rfl) (by unfold maxLen; omega) (by omega) hz3 ?_)
            intro v2 w5 h1 h2 _
            have hB6 := Lib.hid (OwnR.below HO3.out hB5 hz3 h2)
            have HO5 := Lib.hid (show OwnI w5 w.heap.size v2 ((pre ++ [n]) ++ [x]) from OwnR.snoc h1 (by simp) rfl)
            clear h1 h2 hB5 hB4
            go_wp2
            go_roundw
            case rel => exact ⟨k + 1, true, (pre ++ [n]) ++ [x], by omega, by go_num, rfl, by simpa using HP.out, by simp; omega, HO5.out, hB6.out⟩
            case measure => simp [intOf]; omega
        · have hxn : x ≠ n := by omega
          rw [if_neg (by omega), if_pos hxn, decide_eq_false hle] at hP
          have HP := Lib.hid hP
          have m0 : (x != n) = true := by simp [bne, hxn]
          clear hP HOn HHn hBn hxn
          go_wp2_with (at_builtin; refine wpList_append_own _ rfl _ _ 37 rfl w.heap.size 3 i0 (.int .i64 0) 1 8 Try.underlying37 hi hz0 hz1 hz2 rfl (by decide) _ _ _ rfl HOx.out ⟨wr.heap.size, 0, none⟩ 1 1 [.int .i64 x] rfl rfl (World.news_of_block (cs := #[.int .i64 x]) HHx.out) (by intro u hu; simp at hu; subst hu; rfl) (by unfold maxLen; omega) (by omega) hz1x ?_)
          intro v' w3 h1 h2 _
          have hB4 := Lib.hid (OwnR.below HOx.out hBx hz1x h2)
          have HO3 := Lib.hid (show OwnI w3 w.heap.size v' (pre ++ [x]) from OwnR.snoc h1 rfl rfl)
          clear h1 h2 hBx
          go_wp2
          go_roundw
          case rel => exact ⟨k + 1, false, pre ++ [x], by omega, by go_num, rfl, by simpa using HP.out, by simp; omega, HO3.out, hB4.out⟩
          case measure => simp [intOf]; omega
    · have hk2 : k = l.length := by omega
      rw [hk2, List.drop_length] at hp
      rw [hk2]
      clear hk hk2 hlt
      cases d with
      | true =>
        have hp' : putR n l false = pre := by rw [hp]; simp [putR]
        have HP := Lib.hid hp'
        clear hp hp'
        go_wp2
        go_ret
        exact ⟨_, rfl, by rw [HP.out]; exact HO.out.ints, hB⟩
      | false =>
        have hp' : putR n l false = pre ++ [n] := by rw [hp]; simp [putR]
        have HP := Lib.hid hp'
        have hz1' : w.heap.size ≤ (wr.alloc (.cells #[.int .i64 n] 3)).heap.size := by simp; omega
        have hBn := hB.alloc hsz (.cells #[.int .i64 n] 3)
        have HOn := Lib.hid (HO.out.alloc (.cells #[.int .i64 n] 3))
        have HHn := Lib.hid (heap_alloc_new wr (.cells #[.int .i64 n] 3))
        clear hp hp'
        go_wp2_with (at_builtin; refine wpList_append_own _ rfl _ _ 37 rfl w.heap.size 3 i0 (.int .i64 0) 1 8 Try.underlying37 hi hz0 hz1 hz2 rfl (by decide) _ _ _ rfl HOn.out ⟨wr.heap.size, 0, none⟩ 1 1 [.int .i64 n] rfl rfl (World.news_of_block (cs := #[.int .i64 n]) HHn.out) (by intro u hu; simp at hu; subst hu; rfl) (by unfold maxLen; omega) (by omega) hz1' ?_)
        intro v' w3 h1 h2 _
        have hB4 := Lib.hid (OwnR.below HOn.out hBn hz1' h2)
        have HO3 := Lib.hid (show OwnI w3 w.heap.size v' (pre ++ [n]) from OwnR.snoc h1 rfl rfl)
        clear h1 h2 hBn
        go_wp2
        go_ret
        exact ⟨_, rfl, by rw [HP.out]; exact HO3.out.ints, hB4.out⟩
end Go.Proofs.Ytddlgnfghecncaa
/- The walks of the document's answers for layer 7: what a way goes through. -/
namespace Go.Proofs.Ytddlgnfghecncaa
open Go.RowKit

theorem putR_len (n : Int) (l : List Int) : ∀ d, (putR n l d).length ≤ l.length + (if d = true then 0 else 1) := by
  induction l with
  | nil => intro d; cases d <;> simp [putR]
  | cons x l ih =>
    intro d
    unfold putR
    rw [List.length_append, List.length_append]
    have h1 := ih (d || decide (n ≤ x))
    have h2 : (if x ≠ n then [x] else []).length ≤ 1 := by split <;> simp
    have h3 : (if d = false ∧ n ≤ x then [n] else []).length + (if (d || decide (n ≤ x)) = true then 0 else 1) ≤ (if d = true then 0 else 1) := by
      cases d <;> by_cases h : n ≤ x <;> simp [h]
    simp only [List.length_cons]
    omega
theorem crs7_len (hit : Ais → Bool) (l : List Ais) : (crs7 hit l).length ≤ l.length := by
  have key : ∀ k, k ≤ l.length → (crs7 hit (l.take k)).length ≤ k := by
    intro k
    induction k with
    | zero => intro _; simp [crs7]
    | succ k ih =>
      intro hk
      have h0 := ih (by omega)
      rw [crs7_next hit l k (by omega)]
      split
      · have := putR_len (pa l k).id (crs7 hit (l.take k)) false
        simp at this
        omega
      · omega
  have := key l.length (Nat.le_refl _)
  rwa [List.take_length] at this
theorem crs7_len' (hit : Ais → Bool) (l : List Ais) (k : Nat) : (crs7 hit (l.take k)).length ≤ l.length := by
  have := crs7_len hit (l.take k)
  rw [List.length_take] at this
  omega
theorem hit_next (a : Ais) (w : List (Int × Int)) (j : Nat) (h : j < w.length) : hitB (w.take (j + 1)) a = (hitB (w.take j) a || hasB a (pat w j).1 (pat w j).2) := by
  unfold hitB
  rw [List.take_add_one, pat_get w j h]
  simp
theorem hit_front {a : Ais} {w : List (Int × Int)} {j : Nat} (h : hitB (w.take j) a = true) : hitB w a = true := by
  unfold hitB at *
  rw [List.any_eq_true] at *
  obtain ⟨z, h1, h2⟩ := h
  exact ⟨z, List.mem_of_mem_take h1, h2⟩

set_option maxHeartbeats 4000000 in
set_option maxRecDepth 100000 in
theorem refCross_any (va : Value) (l : List Ais) (x1 y1 x2 y2 how : Int) (w : World) (ha : AisAt w va l) (hl : l.length ≤ 100000) :
    Calls Try.prog 20 #[va, .agg #[.int .i64 x1, .int .i64 y1], .agg #[.int .i64 x2, .int .i64 y2], .int .i64 how] w fun e w' => ∃ v, e = .returned v ∧ IntsAt w' v (crs7 (hitB (rway (wd x1, wd y1) (wd x2, wd y2) how)) l) ∧ Below w.heap.size w w' := by
  have hr := fun w => refRoute_any x1 y1 x2 y2 how w
  have hwl := rway_length (wd x1, wd y1) (wd x2, wd y2) how
  have hgb := gap_bd (a := (wd x1, wd y1)) (b := (wd x2, wd y2)) ⟨wd_bd x1, wd_bd y1⟩ ⟨wd_bd x2, wd_bd y2⟩
  have hway : (rway (wd x1, wd y1) (wd x2, wd y2) how).length ≤ 4001 := by omega
  clear hwl hgb
  generalize rway (wd x1, wd y1) (wd x2, wd y2) how = W at *
  obtain ⟨a, c, rfl⟩ := RowsAt.form ha
  have HA := Lib.hid ha
  have HR := Lib.hid hr
  clear ha hr
  have hB : Below w.heap.size w ((w.alloc (.cells #[.int .i64 x1, .int .i64 y1] 24)).alloc (.cells #[.int .i64 x2, .int .i64 y2] 24)) := ((Below.refl _ _).alloc (Nat.le_refl _) _).alloc (by simp) _
  go_enter Try.func20, Try.ntmps20
  go_wp2_with (go_at_call 17; (with_reducible refine (HR.out _).mono ?_); rintro e w1 ⟨vw, rfl, hp, hb⟩; have HW := Lib.hid hp; have hB1 := hB.trans (hb.mono hB.size); obtain ⟨aw, cw, evw⟩ := (show ∃ a c, vw = .slice a W.length c from (by obtain ⟨a, c, e, _⟩ := hp; exact ⟨a, c, e⟩)); subst evw; clear hb hp hB)
  go_loopw [10, 11, 12, 13] (fun out i _ _ wr => ∃ k : Nat, k ≤ l.length ∧ i = .int .i64 k ∧ IntsAt wr out (crs7 (hitB W) (l.take k)) ∧ Below w1.heap.size w1 wr) (fun _ i _ _ _ => l.length - (intOf i).toNat)
  case atStart => exact ⟨0, Nat.zero_le _, rfl, IntsAt.nil _, Below.refl _ _⟩
  case round =>
    obtain ⟨k, hk, rfl, hout, hB⟩ := hrel
    have HOUT := Lib.hid hout
    clear hout
    obtain ⟨wo, rfl⟩ : ∃ x, x = wr := ⟨wr, rfl⟩
    by_cases hlt : k < l.length
    · have hnx := crs7_next (hitB W) l k hlt
      have HAA := Lib.hid (fun (wq : World) (h : Below w1.heap.size w1 wq) => HA.out.kept (hB1.trans (h.mono hB1.size)))
      obtain ⟨g, o, c', i, a1, a2, b1, b2, hlk, ev, hc, hg, p0, p1, p2, p3, p4⟩ := AisAt.at (HAA.out _ hB) k hlt
      cases ev
      have j0 : (0 : Int) ≤ (k : Int) := by omega
      have j1 : (k : Int) < (l.length : Int) := by omega
      rw [hlk] at hnx
      have HNX := Lib.hid hnx
      have HLK := Lib.hid hlk
      clear hnx hlk
      go_wp2
      go_loopw [12, 13] (fun s m wq => ∃ (j : Nat) (b : Bool), j ≤ W.length ∧ m = .int .i64 j ∧ s = .bool b ∧ b = hitB (W.take j) ⟨i, a1, a2, b1, b2⟩ ∧ Below wo.heap.size wo wq) (fun _ m _ => W.length - (intOf m).toNat)
      case atStart => exact ⟨0, false, Nat.zero_le _, rfl, rfl, rfl, Below.refl _ _⟩
      case round =>
        obtain ⟨j, b, hj, rfl, rfl, hb, hBq⟩ := hrel
        have hgw : g < wo.heap.size := World.block_lt_of_cell? _ _ p0
        have q0 := (hBq.cell (p := ⟨g, o + k * 5, none⟩) hgw).trans p0
        have q1 := (hBq.cell (p := ⟨g, o + k * 5 + 1, none⟩) hgw).trans p1
        have q2 := (hBq.cell (p := ⟨g, o + k * 5 + 2, none⟩) hgw).trans p2
        have q3 := (hBq.cell (p := ⟨g, o + k * 5 + 3, none⟩) hgw).trans p3
        have q4 := (hBq.cell (p := ⟨g, o + k * 5 + 4, none⟩) hgw).trans p4
        have hBw := hB.trans (hBq.mono hB.size)
        have HBT := Lib.hid hb
        clear hb
        by_cases hgo : b = false ∧ j < W.length
        · obtain ⟨rfl, hjl⟩ := hgo
          obtain ⟨g', o', c', ev, hc', hg', r1, r2⟩ := (HW.out.kept hBw).spot j hjl
          cases ev
          have hnx2 := hit_next ⟨i, a1, a2, b1, b2⟩ W j hjl
          rw [← HBT.out, Bool.false_or] at hnx2
          obtain ⟨⟨x, y⟩, hxy⟩ : ∃ p, pat W j = p := ⟨_, rfl⟩
          rw [hxy] at hnx2 r1 r2
          simp only at hnx2 r1 r2
          have hh := fun w => refHas_any ⟨i, a1, a2, b1, b2⟩ x y w
          rw [← hnx2] at hh
          have HH := Lib.hid hh
          have m0 : (0 : Int) ≤ (j : Int) := by omega
          have m1 : (j : Int) < (W.length : Int) := by omega
          clear hnx2 hxy hh p0 p1 p2 p3 p4
          go_wp2
          refine wp_region_calm0 (by kernel_rfl) (by kernel_rfl) fun M => ?_
          have e0 := fun n : In M.w => n.cell (M.cell q0)
          have e1 := fun n : In M.w => n.cell (M.cell q1)
          have e2 := fun n : In M.w => n.cell (M.cell q2)
          have e3 := fun n : In M.w => n.cell (M.cell q3)
          have e4 := fun n : In M.w => n.cell (M.cell q4)
          have f1 := fun n : In M.w => n.cell (M.cell r1)
          have f2 := fun n : In M.w => n.cell (M.cell r2)
          repeat (go_big_quiet_step ((go_at_call 30; with_reducible exact In.call (HH.out _))))
          refine wpQuiet_nil ?_
          intro w4 hb
          have hB5 := hBq.trans (hb.mono hBq.size)
          clear e0 e1 e2 e3 e4 f1 f2 M hb q0 q1 q2 q3 q4 r1 r2
          go_wp2
          go_roundw
          case rel => exact ⟨j + 1, _, by omega, by go_num, rfl, rfl, hB5⟩
          case measure => simp [intOf]; omega
        · have hfin : b = hitB W ⟨i, a1, a2, b1, b2⟩ := by
            cases b with
            | true => exact (hit_front HBT.out.symm).symm
            | false =>
              have : j = W.length := by simp at hgo; omega
              have h := HBT.out
              rw [this, List.take_length] at h
              exact h
          have hnj : b = false → ¬ ((j : Int) < (W.length : Int)) := fun e h => hgo ⟨e, by omega⟩
          clear hgo
          cases b with
          | true =>
            have hno : crs7 (hitB W) (l.take (k + 1)) = putR i (crs7 (hitB W) (l.take k)) false := by rw [HNX.out, if_pos hfin.symm]
            have HNO := Lib.hid hno
            have hlen := crs7_len' (hitB W) l k
            have hput := fun w v h => refPut_any v (crs7 (hitB W) (l.take k)) i w h (by omega)
            have HPUT := Lib.hid hput
            have HO1 := Lib.hid (HOUT.out.below hBq)
            clear hno hput hfin hnj hlen
            go_wp2_with (go_at_call 44; (with_reducible refine (HPUT.out _ _ HO1.out).mono ?_); rintro e w6 ⟨v6, rfl, hi6, hb⟩; have HI6 := Lib.hid hi6; have hB6 := hBw.trans (hb.mono hBw.size); clear hb hi6 q0 q1 q2 q3 q4)
            go_roundw
            case rel => exact ⟨k + 1, by omega, by go_num, by rw [HNO.out]; exact HI6.out, hB6⟩
            case measure => simp [intOf]; omega
            case roundEnd => exact ⟨⟨k + 1, by omega, by go_num, by rw [HNO.out]; exact HI6.out, hB6⟩, by simp [intOf]; omega⟩
          | false =>
            have hno : crs7 (hitB W) (l.take (k + 1)) = crs7 (hitB W) (l.take k) := by rw [HNX.out, if_neg (by rw [← hfin]; decide)]
            have HNO := Lib.hid hno
            have hj2 := hnj rfl
            have HO1 := Lib.hid (HOUT.out.below hBq)
            clear hno hfin hnj
            go_wp2
            go_roundw
            case rel => exact ⟨k + 1, by omega, by go_num, by rw [HNO.out]; exact HO1.out, hBw⟩
            case measure => simp [intOf]; omega
    · have hk2 : k = l.length := by omega
      rw [hk2, List.take_length] at HOUT
      rw [hk2]
      clear hk hk2 hlt
      go_wp2
      go_ret
      exact ⟨_, rfl, HOUT.out, hB1.trans (hB.mono hB1.size)⟩
end Go.Proofs.Ytddlgnfghecncaa
/- The walks of the document's answers for layer 7: aisles moved. -/
namespace Go.Proofs.Ytddlgnfghecncaa
open Go.RowKit

/-- an aisle moved -/
def mvA (n x y : Int) (a : Ais) : Ais :=
  ⟨a.id, min (rmv n x y (a.lx, a.ly)).1 (rmv n x y (a.hx, a.hy)).1, min (rmv n x y (a.lx, a.ly)).2 (rmv n x y (a.hx, a.hy)).2,
    max (rmv n x y (a.lx, a.ly)).1 (rmv n x y (a.hx, a.hy)).1, max (rmv n x y (a.lx, a.ly)).2 (rmv n x y (a.hx, a.hy)).2⟩
theorem take_map_ais (f : Ais → Ais) (l : List Ais) (k : Nat) (h : k < l.length) : (l.take (k + 1)).map f = (l.take k).map f ++ [f (pa l k)] := by
  rw [List.take_succ_eq_append_getElem h, List.map_append, pa_get l k h]
  rfl
theorem OwnR.lt {α : Type} {w : World} {B : Nat} {e : TypeId} {K : Nat} {cs : α → List Value} {v : Value} {l : List α} (h : OwnR w B e K cs v l) {k : Nat} (hk : w.heap.size ≤ k) : v.ownBlock ≠ some k := by
  rcases h.2 with ⟨rfl, _⟩ | ⟨g, cap, cur, rfl, _, hh, _⟩
  · simp [Value.ownBlock]
  · have := lt_of_block hh
    simp [Value.ownBlock]
    omega
theorem info_ais : (Try.prog.info? 26).map (fun i => (i.zero, i.size, i.bytes)) = some (some (.agg #[.int .i64 0, .int .i64 0, .int .i64 0, .int .i64 0, .int .i64 0]), 5, 40) := by kernel_rfl

set_option maxHeartbeats 8000000 in
set_option maxRecDepth 100000 in
theorem refPMoved_any (n x y : Int) (va : Value) (l : List Ais) (w : World) (ha : AisAt w va l) (hl : l.length ≤ 1000000) :
    Calls Try.prog 23 #[.agg #[.int .i64 n, .int .i64 x, .int .i64 y], va] w fun e w' => ∃ v, e = .returned v ∧ AisAt w' v (l.map (mvA n x y)) ∧ Below w.heap.size w w' := by
  obtain ⟨i0, hi, hz0, hz1, hz2⟩ := info_parts info_ais
  have HA := Lib.hid ha
  obtain ⟨a, c, rfl⟩ := RowsAt.form ha
  clear ha
  have hB0 : Below w.heap.size w (w.alloc (.cells #[.int .i64 n, .int .i64 x, .int .i64 y] 41)) := (Below.refl _ _).alloc (Nat.le_refl _) _
  have C0 := Cell3.new w (.int .i64 n) (.int .i64 x) (.int .i64 y) 41
  have hS0 : (w.alloc (.cells #[.int .i64 n, .int .i64 x, .int .i64 y] 41)).heap.size = w.heap.size + 1 := by simp
  have hR0 : Below (w.heap.size + 1) (w.alloc (.cells #[.int .i64 n, .int .i64 x, .int .i64 y] 41)) (w.alloc (.cells #[.int .i64 n, .int .i64 x, .int .i64 y] 41)) := Below.refl _ _
  go_enter Try.func23, Try.ntmps23
  obtain ⟨w0, hw0⟩ : ∃ w0, w.alloc (.cells #[.int .i64 n, .int .i64 x, .int .i64 y] 41) = w0 := ⟨_, rfl⟩
  go_wp2
  rw [hw0] at hB0 C0 hS0 hR0
  have HB0 := Lib.hid hB0
  have HC0 := Lib.hid C0
  clear hB0 C0 hw0
  go_loopw [5, 6, 7, 8] (fun v i _ _ wr => ∃ k : Nat, k ≤ l.length ∧ i = .int .i64 k ∧ OwnR wr (w.heap.size + 1) 26 5 Ais.cs v ((l.take k).map (mvA n x y)) ∧ Below (w.heap.size + 1) w0 wr) (fun _ i _ _ _ => l.length - (intOf i).toNat)
  case atStart => exact ⟨0, Nat.zero_le _, rfl, OwnR.nil _ _ _ _ _, hR0⟩
  case round =>
    clear hR0
    obtain ⟨k, hk, rfl, hown, hB⟩ := hrel
    have HB := Lib.hid (HB0.out.trans (hB.mono (by omega)))
    by_cases hlt : k < l.length
    · have HAR := Lib.hid (HA.out.kept HB.out)
      obtain ⟨c0, c1, c2, _, _, _⟩ := HC0.out.below hB (by omega)
      have hm := take_map_ais (mvA n x y) l k hlt
      obtain ⟨g, o, c', i, a1, a2, b1, b2, hlk, ev, hc, hg, p0, p1, p2, p3, p4⟩ := AisAt.at HAR.out k hlt
      cases ev
      rw [hlk] at hm
      have hd1 := fun w => refMDo_any n x y a1 a2 w
      have hd2 := fun w => refMDo_any n x y b1 b2 w
      have hmv : mvA n x y ⟨i, a1, a2, b1, b2⟩ = ⟨i, min (rmv n x y (a1, a2)).1 (rmv n x y (b1, b2)).1, min (rmv n x y (a1, a2)).2 (rmv n x y (b1, b2)).2, max (rmv n x y (a1, a2)).1 (rmv n x y (b1, b2)).1, max (rmv n x y (a1, a2)).2 (rmv n x y (b1, b2)).2⟩ := rfl
      obtain ⟨⟨r1, r2⟩, hr⟩ : ∃ r, rmv n x y (a1, a2) = r := ⟨_, rfl⟩
      obtain ⟨⟨s1, s2⟩, hs⟩ : ∃ r, rmv n x y (b1, b2) = r := ⟨_, rfl⟩
      have hr1 : (rot (qr n) (fx a1) (fx a2)).1 + fx x = r1 := congrArg Prod.fst hr
      have hr2 : (rot (qr n) (fx a1) (fx a2)).2 + fx y = r2 := congrArg Prod.snd hr
      have hs1 : (rot (qr n) (fx b1) (fx b2)).1 + fx x = s1 := congrArg Prod.fst hs
      have hs2 : (rot (qr n) (fx b1) (fx b2)).2 + fx y = s2 := congrArg Prod.snd hs
      rw [hr1, hr2] at hd1
      rw [hs1, hs2] at hd2
      rw [hr, hs] at hmv
      obtain ⟨m1, hm1⟩ : ∃ m, min r1 s1 = m := ⟨_, rfl⟩
      obtain ⟨m2, hm2⟩ : ∃ m, min r2 s2 = m := ⟨_, rfl⟩
      obtain ⟨m3, hm3⟩ : ∃ m, max r1 s1 = m := ⟨_, rfl⟩
      obtain ⟨m4, hm4⟩ : ∃ m, max r2 s2 = m := ⟨_, rfl⟩
      simp only at hmv
      rw [hm1, hm2, hm3, hm4] at hmv
      rw [hmv] at hm
      have HM := Lib.hid hm
      have HD1 := Lib.hid hd1
      have HD2 := Lib.hid hd2
      have HO := Lib.hid hown
      clear hr hs hr1 hr2 hs1 hs2 hd1 hd2 hm hown hmv hlk
      have j0 : (0 : Int) ≤ (k : Int) := by omega
      have j1 : (k : Int) < (l.length : Int) := by omega
      go_wp2
      refine wp_region_calmN 14 16 [(.cells #[.int .i64 0, .int .i64 0] 24, fun b => .pointer (some ⟨b, 0, none⟩)), (.cells #[.int .i64 0, .int .i64 0] 24, fun b => .pointer (some ⟨b, 0, none⟩))] (by kernel_rfl) (by simp) (by simp) (by kernel_rfl) fun M => ?_
      simp only [List.take_succ_cons, List.take_zero, List.drop_succ_cons, List.drop_zero, List.length_cons, List.length_nil, List.take_nil]
      have e0 := fun n : In M.w => n.cell (M.cell c0)
      have e1 := fun n : In M.w => n.cell (M.cell c1)
      have e2 := fun n : In M.w => n.cell (M.cell c2)
      have q1 := fun n : In M.w => n.cell (M.cell p1)
      have q2 := fun n : In M.w => n.cell (M.cell p2)
      have q3 := fun n : In M.w => n.cell (M.cell p3)
      have q4 := fun n : In M.w => n.cell (M.cell p4)
      repeat (go_big_quiet_step (first
        | (go_at_call 45; with_reducible exact In.call (HD1.out _))
        | (go_at_call 45; with_reducible exact In.call (HD2.out _))))
      refine wpQuiet_nil ?_
      clear e0 e1 e2 q1 q2 q3 q4 M c0 c1 c2 HD1 HD2
      refine ⟨rfl, fun n => by simp [go_sem], fun u hu _ => ⟨rfl, fun n => by simp [go_sem], fun v hv hvu w2 hw => ?_⟩⟩
      have hne : v ≠ u := fun e => by rw [e, Gh.set_self] at hvu; cases hvu
      have hne' : u ≠ v := Ne.symm hne
      have hbl := hw.below
      have h1 := hw.own u _ (by rw [Gh.set_ne _ (Ne.symm hne)]; exact Gh.set_self _ _ _)
      have h2 := hw.own v _ (Gh.set_self _ _ _)
      have hBz := hB.size
      have hB2 := hB.trans (hbl.mono (by omega))
      have hu1 : w.heap.size + 1 ≤ u := by omega
      have hv1 : w.heap.size + 1 ≤ v := by omega
      have HO2 := Lib.hid (((((HO.out.kept hbl).away ⟨u, 0, none⟩ (.int .i64 r1) (HO.out.lt hu)).away ⟨u, 1, none⟩ (.int .i64 r2) (HO.out.lt hu)).away ⟨v, 0, none⟩ (.int .i64 s1) (HO.out.lt hv)).away ⟨v, 1, none⟩ (.int .i64 s2) (HO.out.lt hv))
      have HU := Lib.hid (hkeep (hkeep (hset1 (hset0 h1 (.int .i64 r1)) (.int .i64 r2)) 0 (.int .i64 s1) hne') 1 (.int .i64 s2) hne')
      have HV := Lib.hid (hset1 (hset0 (hkeep (hkeep h2 0 (.int .i64 r1) hne) 1 (.int .i64 r2) hne) (.int .i64 s1)) (.int .i64 s2))
      have hB3 := (((hB2.setCell (p := ⟨u, 0, none⟩) hu1 (.int .i64 r1)).setCell (p := ⟨u, 1, none⟩) hu1 (.int .i64 r2)).setCell (p := ⟨v, 0, none⟩) hv1 (.int .i64 s1)).setCell (p := ⟨v, 1, none⟩) hv1 (.int .i64 s2)
      have hgz : g < wr.heap.size := World.block_lt_of_cell? _ _ p0
      have hB3' := Lib.hid ((((hbl.setCell (p := ⟨u, 0, none⟩) hu (.int .i64 r1)).setCell (p := ⟨u, 1, none⟩) hu (.int .i64 r2)).setCell (p := ⟨v, 0, none⟩) hv (.int .i64 s1)).setCell (p := ⟨v, 1, none⟩) hv (.int .i64 s2))
      have P0 := Lib.hid ((hB3'.out.cell (p := ⟨g, o + k * 5, none⟩) hgz).trans p0)
      obtain ⟨d0, d1, z0, z1⟩ := Cell2.of_heap h1
      obtain ⟨f0, f1, y0, y1⟩ := Cell2.of_heap h2
      have HB3 := Lib.hid hB3
      clear hbl hw hvu h1 h2 hB2 hB hu hv p0 p1 p2 p3 p4 HO hB3 hB3'
      go_wp2
      clear d0 d1 z0 z1 f0 f1 y0 y1
      generalize ((((w2.setCell ⟨u, 0, none⟩ (.int .i64 r1)).setCell ⟨u, 1, none⟩ (.int .i64 r2)).setCell ⟨v, 0, none⟩ (.int .i64 s1)).setCell ⟨v, 1, none⟩ (.int .i64 s2)) = w3 at *
      obtain ⟨g0, g1, _, _⟩ := Cell2.of_heap HU.out
      obtain ⟨k0, k1, _, _⟩ := Cell2.of_heap HV.out
      have p0 := P0.out
      refine wp_region_calmN 29 30 [(.cells #[.int .i64 i, .int .i64 m1, .int .i64 m2, .int .i64 m3, .int .i64 m4] 26, fun b => .slice (some ⟨b, 0, none⟩) 1 1)] (by kernel_rfl) (by simp) (by simp) (by kernel_rfl) fun M => ?_
      simp only [List.take_succ_cons, List.take_zero, List.drop_succ_cons, List.drop_zero, List.length_cons, List.length_nil, List.take_nil]
      have e0 := fun n : In M.w => n.cell (M.cell g0)
      have e1 := fun n : In M.w => n.cell (M.cell g1)
      have e2 := fun n : In M.w => n.cell (M.cell k0)
      have e3 := fun n : In M.w => n.cell (M.cell k1)
      have e4 := fun n : In M.w => n.cell (M.cell p0)
      repeat (go_big_quiet_step (fail))
      refine wpQuiet_nil ?_
      clear e0 e1 e2 e3 e4 M g0 g1 k0 k1 p0
      refine ⟨rfl, fun n => by simp [go_sem], fun bp hbp _ w4 hw => ?_⟩
      have hb4 := hw.below
      have hH := hw.own bp _ (Gh.set_self _ _ _)
      have ho4 := HO2.out.kept hb4
      have hB4 := HB3.out.trans (hb4.mono (by have := HB3.out.size; omega))
      clear hw
      have hlen : ((l.take k).map (mvA n x y)).length ≤ 1000000 := by simp; omega
      have hsz4 : w.heap.size + 1 ≤ w4.heap.size := by have := hB4.size; omega
      go_wp2_with (at_builtin; refine wpList_append_own _ rfl _ _ 22 rfl (w.heap.size + 1) 26 i0 (.agg #[.int .i64 0, .int .i64 0, .int .i64 0, .int .i64 0, .int .i64 0]) 5 40 Try.underlying22 hi hz0 hz1 hz2 rfl (by decide) _ _ _ rfl ho4 ⟨bp, 0, none⟩ 1 1 [.int .i64 i, .int .i64 m1, .int .i64 m2, .int .i64 m3, .int .i64 m4] rfl rfl (World.news_of_block (cs := #[.int .i64 i, .int .i64 m1, .int .i64 m2, .int .i64 m3, .int .i64 m4]) hH) (by intro u hu; simp at hu; rcases hu with rfl | rfl | rfl | rfl | rfl <;> rfl) (by unfold maxLen; omega) (by omega) hsz4 ?_)
      intro v' w5 h1 h2 _
      have o5 : OwnR w5 (w.heap.size + 1) 26 5 Ais.cs v' ((l.take (k + 1)).map (mvA n x y)) := by
        rw [HM.out]
        refine OwnR.snoc h1 (by simp; omega) ?_
        rw [List.map_take]
        rfl
      have hB5 : Below (w.heap.size + 1) w0 w5 := OwnR.below ho4 hB4 hsz4 h2
      have HO5 := Lib.hid o5
      clear h1 h2 ho4 hH o5 hb4 hB4
      go_wp2
      go_roundw
      case rel => exact ⟨k + 1, by omega, by go_num, HO5.out, hB5⟩
      case measure => simp [intOf]; omega
    · have hk2 : k = l.length := by omega
      rw [hk2, List.take_length] at hown
      rw [hk2]
      have HO := Lib.hid hown
      clear hk hk2 hown
      go_wp2
      go_ret
      exact ⟨_, rfl, OwnR.rows Ais.cs_len HO.out, HB.out⟩
end Go.Proofs.Ytddlgnfghecncaa
/- The walks of package plan: aisles moved. -/
namespace Go.Proofs.Ytddlgnfghecncaa
open Go.RowKit

theorem hsetk {w : World} {b : Nat} {cs : Array Value} {t : TypeId} (h : w.heap[b]? = some (.cells cs t)) (i : Nat) (x : Value) : (w.setCell ⟨b, i, none⟩ x).heap[b]? = some (.cells (cs.setIfInBounds i x) t) := by
  unfold World.setCell
  simp only [Array.getElem?_modify, if_pos, h, Option.map_some]
  rfl
theorem cells5 {w : World} {b : Nat} {u0 u1 u2 u3 u4 : Value} {t : TypeId} (h : w.heap[b]? = some (.cells #[u0, u1, u2, u3, u4] t)) :
    (w.cell? ⟨b, 0, none⟩ = some u0 ∧ w.cell? ⟨b, 1, none⟩ = some u1 ∧ w.cell? ⟨b, 2, none⟩ = some u2 ∧ w.cell? ⟨b, 3, none⟩ = some u3 ∧ w.cell? ⟨b, 4, none⟩ = some u4) ∧
      (w.frozen? ⟨b, 0, none⟩ = false ∧ w.frozen? ⟨b, 1, none⟩ = false ∧ w.frozen? ⟨b, 2, none⟩ = false ∧ w.frozen? ⟨b, 3, none⟩ = false ∧ w.frozen? ⟨b, 4, none⟩ = false) := by
  refine ⟨⟨?_, ?_, ?_, ?_, ?_⟩, ?_, ?_, ?_, ?_, ?_⟩ <;> simp [World.cell?, World.frozen?, h]

set_option maxHeartbeats 1000000 in
set_option maxRecDepth 100000 in
theorem pMoved_any (n x y : Int) (va : Value) (l : List Ais) (w : World) (ha : AisAt w va l) (hl : l.length ≤ 1000000) :
    Calls Try.prog 22 #[.agg #[.int .i64 n, .int .i64 x, .int .i64 y], va] w fun e w' => ∃ v, e = .returned v ∧ AisAt w' v (l.map (mvA n x y)) ∧ Below w.heap.size w w' := by
  obtain ⟨i0, hi, hz0, hz1, hz2⟩ := info_parts info_ais
  have HA := Lib.hid ha
  obtain ⟨a, c, rfl⟩ := RowsAt.form ha
  clear ha
  have hB0 : Below w.heap.size w (w.alloc (.cells #[.int .i64 n, .int .i64 x, .int .i64 y] 41)) := (Below.refl _ _).alloc (Nat.le_refl _) _
  have C0 := Cell3.new w (.int .i64 n) (.int .i64 x) (.int .i64 y) 41
  have hS0 : (w.alloc (.cells #[.int .i64 n, .int .i64 x, .int .i64 y] 41)).heap.size = w.heap.size + 1 := by simp
  have hR0 : Below (w.heap.size + 1) (w.alloc (.cells #[.int .i64 n, .int .i64 x, .int .i64 y] 41)) (w.alloc (.cells #[.int .i64 n, .int .i64 x, .int .i64 y] 41)) := Below.refl _ _
  go_enter Try.func22, Try.ntmps22
  obtain ⟨w0, hw0⟩ : ∃ w0, w.alloc (.cells #[.int .i64 n, .int .i64 x, .int .i64 y] 41) = w0 := ⟨_, rfl⟩
  go_wp2
  rw [hw0] at hB0 C0 hS0 hR0
  have HB0 := Lib.hid hB0
  have HC0 := Lib.hid C0
  clear hB0 C0 hw0
  go_loopw [5, 7, 8, 11] (fun v _ _ i wr => ∃ k : Nat, k ≤ l.length ∧ i = .int .i64 k ∧ OwnR wr (w.heap.size + 1) 26 5 Ais.cs v ((l.take k).map (mvA n x y)) ∧ Below (w.heap.size + 1) w0 wr) (fun _ _ _ i _ => l.length - (intOf i).toNat)
  case atStart => exact ⟨0, Nat.zero_le _, rfl, OwnR.nil _ _ _ _ _, hR0⟩
  case round =>
    clear hR0
    obtain ⟨k, hk, rfl, hown, hB⟩ := hrel
    have HB := Lib.hid (HB0.out.trans (hB.mono (by omega)))
    by_cases hlt : k < l.length
    · have HAR := Lib.hid (HA.out.kept HB.out)
      have hm := take_map_ais (mvA n x y) l k hlt
      obtain ⟨g, o, c', i, a1, a2, b1, b2, hlk, ev, hc, hg, p0, p1, p2, p3, p4⟩ := AisAt.at HAR.out k hlt
      cases ev
      rw [hlk] at hm
      have hd1 := fun w => mdo_any n x y a1 a2 w
      have hd2 := fun w => mdo_any n x y b1 b2 w
      have hmv : mvA n x y ⟨i, a1, a2, b1, b2⟩ = ⟨i, min (rmv n x y (a1, a2)).1 (rmv n x y (b1, b2)).1, min (rmv n x y (a1, a2)).2 (rmv n x y (b1, b2)).2, max (rmv n x y (a1, a2)).1 (rmv n x y (b1, b2)).1, max (rmv n x y (a1, a2)).2 (rmv n x y (b1, b2)).2⟩ := rfl
      obtain ⟨⟨r1, r2⟩, hr⟩ : ∃ r, rmv n x y (a1, a2) = r := ⟨_, rfl⟩
      obtain ⟨⟨s1, s2⟩, hs⟩ : ∃ r, rmv n x y (b1, b2) = r := ⟨_, rfl⟩
      have hr1 : (rot (qr n) (fx a1) (fx a2)).1 + fx x = r1 := congrArg Prod.fst hr
      have hr2 : (rot (qr n) (fx a1) (fx a2)).2 + fx y = r2 := congrArg Prod.snd hr
      have hs1 : (rot (qr n) (fx b1) (fx b2)).1 + fx x = s1 := congrArg Prod.fst hs
      have hs2 : (rot (qr n) (fx b1) (fx b2)).2 + fx y = s2 := congrArg Prod.snd hs
      rw [hr1, hr2] at hd1
      rw [hs1, hs2] at hd2
      rw [hr, hs] at hmv
      have hbk := fun w => pblock_any r1 r2 s1 s2 w
      obtain ⟨m1, hm1⟩ : ∃ m, min r1 s1 = m := ⟨_, rfl⟩
      obtain ⟨m2, hm2⟩ : ∃ m, min r2 s2 = m := ⟨_, rfl⟩
      obtain ⟨m3, hm3⟩ : ∃ m, max r1 s1 = m := ⟨_, rfl⟩
      obtain ⟨m4, hm4⟩ : ∃ m, max r2 s2 = m := ⟨_, rfl⟩
      simp only at hmv
      rw [hm1, hm2, hm3, hm4] at hmv hbk
      rw [hmv] at hm
      have HM := Lib.hid hm
      have HD1 := Lib.hid hd1
      have HD2 := Lib.hid hd2
      have HBK := Lib.hid hbk
      obtain ⟨wa, hwa⟩ : ∃ wa, wr.alloc (.cells #[.int .i64 i, .int .i64 a1, .int .i64 a2, .int .i64 b1, .int .i64 b2] 26) = wa := ⟨_, rfl⟩
      have hzr : w.heap.size + 1 ≤ wr.heap.size := by have := hB.size; omega
      have hBa := hB.alloc hzr (.cells #[.int .i64 i, .int .i64 a1, .int .i64 a2, .int .i64 b1, .int .i64 b2] 26)
      have hOa := hown.alloc (.cells #[.int .i64 i, .int .i64 a1, .int .i64 a2, .int .i64 b1, .int .i64 b2] 26)
      have hDa := Cell5.new wr ⟨i, a1, a2, b1, b2⟩ 26
      have hza : wr.heap.size + 1 = (wr.alloc (.cells #[.int .i64 i, .int .i64 a1, .int .i64 a2, .int .i64 b1, .int .i64 b2] 26)).heap.size := by simp
      simp only [hwa] at hBa hOa hDa hza
      have HO := Lib.hid hOa
      have HW := Lib.hid hwa
      clear hr hs hr1 hr2 hs1 hs2 hd1 hd2 hm hown hmv hlk hbk hOa hm1 hm2 hm3 hm4 hwa
      have j0 : (0 : Int) ≤ (k : Int) := by omega
      have j1 : (k : Int) < (l.length : Int) := by omega
      go_wp2
      simp only [HW.out]
      have HDa := Lib.hid hDa
      obtain ⟨d0, d1, d2, d3, d4⟩ := hDa
      simp only at d0 d1 d2 d3 d4
      obtain ⟨c0, c1, c2, _, _, _⟩ := HC0.out.below hBa (by omega)
      refine wp_region_calmN 9 10 [(.cells #[.int .i64 0, .int .i64 0, .int .i64 0, .int .i64 0, .int .i64 0] 26, fun b => .pointer (some ⟨b, 0, none⟩))] (by kernel_rfl) (by simp) (by simp) (by kernel_rfl) fun M => ?_
      simp only [List.take_succ_cons, List.take_zero, List.drop_succ_cons, List.drop_zero, List.length_cons, List.length_nil, List.take_nil]
      have e0 := fun n : In M.w => n.cell (M.cell c0)
      have e1 := fun n : In M.w => n.cell (M.cell c1)
      have e2 := fun n : In M.w => n.cell (M.cell c2)
      have q1 := fun n : In M.w => n.cell (M.cell d1)
      have q2 := fun n : In M.w => n.cell (M.cell d2)
      have q3 := fun n : In M.w => n.cell (M.cell d3)
      have q4 := fun n : In M.w => n.cell (M.cell d4)
      repeat (go_big_quiet_step (first
        | (go_at_call 27; with_reducible exact In.call (HD1.out _))
        | (go_at_call 27; with_reducible exact In.call (HD2.out _))
        | (go_at_call 29; with_reducible exact In.call (HBK.out _))))
      refine wpQuiet_nil ?_
      clear e0 e1 e2 q1 q2 q3 q4 M c0 c1 c2 HD1 HD2 HBK
      refine ⟨rfl, fun n => by simp [go_sem], fun u hu _ w2 hw => ?_⟩
      have hbl := hw.below
      have h1 := hw.own u _ (Gh.set_self _ _ _)
      have hne : u ≠ wr.heap.size := by omega
      have hne' : wr.heap.size ≠ u := by omega
      have hu1 : w.heap.size + 1 ≤ u := by omega
      have hBz := hBa.size
      have hB2 := hBa.trans (hbl.mono (by omega))
      have hb3 := (((((hbl.setCell (p := ⟨u, 0, none⟩) (by omega) (.int .i64 0)).setCell (p := ⟨u, 1, none⟩) (by omega) (.int .i64 m1)).setCell (p := ⟨u, 2, none⟩) (by omega) (.int .i64 m2)).setCell (p := ⟨u, 3, none⟩) (by omega) (.int .i64 m3)).setCell (p := ⟨u, 4, none⟩) (by omega) (.int .i64 m4))
      have HU3 := Lib.hid (hsetk (hsetk (hsetk (hsetk (hsetk h1 0 (.int .i64 0)) 1 (.int .i64 m1)) 2 (.int .i64 m2)) 3 (.int .i64 m3)) 4 (.int .i64 m4))
      have HO3 := Lib.hid ((((((HO.out.kept hbl).away ⟨u, 0, none⟩ (.int .i64 0) (HO.out.lt hu)).away ⟨u, 1, none⟩ (.int .i64 m1) (HO.out.lt hu)).away ⟨u, 2, none⟩ (.int .i64 m2) (HO.out.lt hu)).away ⟨u, 3, none⟩ (.int .i64 m3) (HO.out.lt hu)).away ⟨u, 4, none⟩ (.int .i64 m4) (HO.out.lt hu))
      have hou := HO.out.lt hu
      have HOU := Lib.hid hou
      have P3 := Lib.hid ((hb3.cell (World.block_lt_of_cell? _ _ d0)).trans d0)
      have HB3 := Lib.hid (hBa.trans (hb3.mono (by omega)))
      obtain ⟨⟨f0, f1, f2, f3, f4⟩, z0, z1, z2, z3, z4⟩ := cells5 h1
      clear hbl hw h1 hB2 hB hu p0 p1 p2 p3 p4 HO d0 d1 d2 d3 d4 hou hb3
      go_upto_region 6 with fail
      clear f0 f1 f2 f3 f4 z0 z1 z2 z3 z4
      generalize (((((w2.setCell ⟨u, 0, none⟩ (.int .i64 0)).setCell ⟨u, 1, none⟩ (.int .i64 m1)).setCell ⟨u, 2, none⟩ (.int .i64 m2)).setCell ⟨u, 3, none⟩ (.int .i64 m3)).setCell ⟨u, 4, none⟩ (.int .i64 m4)) = w3 at *
      obtain ⟨_, z0, _⟩ := cells5 HU3.out
      have p0 := P3.out
      have HU4 := Lib.hid (hsetk HU3.out 0 (.int .i64 i))
      have HO4 := Lib.hid (HO3.out.away ⟨u, 0, none⟩ (.int .i64 i) HOU.out)
      have HB4 := Lib.hid (HB3.out.setCell (p := ⟨u, 0, none⟩) hu1 (.int .i64 i))
      go_upto_region 7 with fail
      clear p0 z0
      generalize w3.setCell ⟨u, 0, none⟩ (.int .i64 i) = w4 at *
      obtain ⟨⟨f0, f1, f2, f3, f4⟩, _⟩ := cells5 HU4.out
      have ho5 := HO4.out.alloc (.cells #[.int .i64 i, .int .i64 m1, .int .i64 m2, .int .i64 m3, .int .i64 m4] 26)
      have hz4 : w.heap.size + 1 ≤ w4.heap.size := by have := HB4.out.size; omega
      have hB5 := HB4.out.alloc hz4 (.cells #[.int .i64 i, .int .i64 m1, .int .i64 m2, .int .i64 m3, .int .i64 m4] 26)
      have hsz5 : w.heap.size + 1 ≤ (w4.alloc (.cells #[.int .i64 i, .int .i64 m1, .int .i64 m2, .int .i64 m3, .int .i64 m4] 26)).heap.size := by simp; omega
      have hH : (w4.alloc (.cells #[.int .i64 i, .int .i64 m1, .int .i64 m2, .int .i64 m3, .int .i64 m4] 26)).heap[w4.heap.size]? = some (.cells #[.int .i64 i, .int .i64 m1, .int .i64 m2, .int .i64 m3, .int .i64 m4] 26) := Array.getElem?_push_size
      have hlen : ((l.take k).map (mvA n x y)).length ≤ 1000000 := by simp; omega
      go_wp2_with (at_builtin; refine wpList_append_own _ rfl _ _ 22 rfl (w.heap.size + 1) 26 i0 (.agg #[.int .i64 0, .int .i64 0, .int .i64 0, .int .i64 0, .int .i64 0]) 5 40 Try.underlying22 hi hz0 hz1 hz2 rfl (by decide) _ _ _ rfl ho5 ⟨w4.heap.size, 0, none⟩ 1 1 [.int .i64 i, .int .i64 m1, .int .i64 m2, .int .i64 m3, .int .i64 m4] rfl rfl (World.news_of_block (cs := #[.int .i64 i, .int .i64 m1, .int .i64 m2, .int .i64 m3, .int .i64 m4]) hH) (by intro u hu; simp at hu; rcases hu with rfl | rfl | rfl | rfl | rfl <;> rfl) (by unfold maxLen; omega) (by omega) hsz5 ?_)
      intro v' w5 h1 h2 _
      have o5 : OwnR w5 (w.heap.size + 1) 26 5 Ais.cs v' ((l.take (k + 1)).map (mvA n x y)) := by
        rw [HM.out]
        refine OwnR.snoc h1 (by simp; omega) ?_
        rw [List.map_take]
        rfl
      have hB6 : Below (w.heap.size + 1) w0 w5 := OwnR.below ho5 hB5 hsz5 h2
      have HO5 := Lib.hid o5
      clear h1 h2 ho5 hH o5 hB5 f0 f1 f2 f3 f4 hsz5
      go_wp2
      go_roundw
      case rel => exact ⟨k + 1, by omega, by go_num, HO5.out, hB6⟩
      case measure => simp [intOf]; omega
    · have hk2 : k = l.length := by omega
      rw [hk2, List.take_length] at hown
      rw [hk2]
      have HO := Lib.hid hown
      clear hk hk2 hown
      go_wp2
      go_ret
      exact ⟨_, rfl, OwnR.rows Ais.cs_len HO.out, HB.out⟩
end Go.Proofs.Ytddlgnfghecncaa
/- The walks of package plan: the way. -/
namespace Go.Proofs.Ytddlgnfghecncaa
open Go.RowKit

/-! ### The way is two straight ones -/
theorem rway_ne (a b : Int × Int) (how : Int) : rway a b how = a :: (rway a b how).tail := by
  by_cases h : a = b
  · subst h; rw [rway_self]; rfl
  · rw [rway_cons how h]; rfl
theorem trn_self (how : Int) (b : Int × Int) : trn how b b = b := by unfold trn; split <;> rfl
theorem rst_trn {a b : Int × Int} {how : Int} (h : a ≠ trn how a b) : rst b how a = rst (trn how a b) how a ∧ trn how (rst b how a) b = trn how a b ∧ a ≠ b := by
  obtain ⟨a1, a2⟩ := a
  obtain ⟨b1, b2⟩ := b
  unfold trn at *
  by_cases hh : how = 1
  · subst hh
    simp only [if_pos] at *
    have h1 : a2 ≠ b2 := fun e => h (by rw [e])
    unfold rst
    simp [h1]
  · simp only [if_neg hh] at *
    have h1 : a1 ≠ b1 := fun e => h (by rw [e])
    unfold rst
    simp [h1, hh]
theorem rway_split (how : Int) (b : Int × Int) : ∀ n a, gap a (trn how a b) = n → rway a b how = rway a (trn how a b) how ++ (rway (trn how a b) b how).tail := by
  intro n
  induction n with
  | zero =>
    intro a h
    have e := gap_zero h
    rw [← e, rway_self, List.cons_append, List.nil_append]
    exact rway_ne _ _ _
  | succ n ih =>
    intro a h
    have hne : a ≠ trn how a b := fun e => by rw [← e] at h; unfold gap at h; omega
    obtain ⟨h1, h2, h3⟩ := rst_trn hne
    have hg := rst_gap how hne
    rw [rway_cons how h3, rway_cons how hne, ← h1]
    have := ih (rst b how a) (by rw [h2, h1]; omega)
    rw [h2] at this
    rw [this, List.cons_append]
/-- a straight way -/
def strt (a b : Int × Int) : Prop := a.1 = b.1 ∨ a.2 = b.2
theorem sgn_zero : sgn 0 = 0 := rfl
theorem tw_sgn (a b : Int) : tw a b = a + sgn (b - a) := by
  unfold tw sgn
  split <;> (try split) <;> (try split) <;> omega
theorem sgn_keep {a b : Int} (h : a + sgn (b - a) ≠ b) : sgn (b - (a + sgn (b - a))) = sgn (b - a) := by
  rcases Int.lt_trichotomy (b - a) 0 with h1 | h1 | h1
  · have hs : sgn (b - a) = -1 := if_pos h1
    rw [hs] at h ⊢
    exact if_pos (by omega)
  · have hs : sgn (b - a) = 0 := by rw [h1]; rfl
    rw [hs] at h ⊢
    omega
  · have hs : sgn (b - a) = 1 := by unfold sgn; rw [if_neg (by omega), if_pos h1]
    rw [hs] at h ⊢
    unfold sgn
    rw [if_neg (by omega), if_pos (by omega)]
theorem rst_strt {a b : Int × Int} (how : Int) (h : strt a b) (hne : a ≠ b) : rst b how a = (a.1 + sgn (b.1 - a.1), a.2 + sgn (b.2 - a.2)) ∧ strt (rst b how a) b ∧
    (rst b how a ≠ b → sgn (b.1 - (rst b how a).1) = sgn (b.1 - a.1) ∧ sgn (b.2 - (rst b how a).2) = sgn (b.2 - a.2)) := by
  obtain ⟨a1, a2⟩ := a
  obtain ⟨b1, b2⟩ := b
  have hr : rst (b1, b2) how (a1, a2) = (a1 + sgn (b1 - a1), a2 + sgn (b2 - a2)) := by
    unfold strt at h
    simp only at h
    rcases h with rfl | rfl
    · have h2 : a2 ≠ b2 := fun e => hne (by rw [e])
      unfold rst
      rw [if_neg (by simp [h2]), Int.sub_self, sgn_zero, Int.add_zero, tw_sgn]
    · unfold rst
      rw [if_pos (.inl rfl), Int.sub_self, sgn_zero, Int.add_zero, tw_sgn]
  rw [hr]
  refine ⟨rfl, ?_, fun hn => ?_⟩
  · unfold strt at *
    simp only at *
    rcases h with rfl | rfl
    · left; rw [Int.sub_self, sgn_zero, Int.add_zero]
    · right; rw [Int.sub_self, sgn_zero, Int.add_zero]
  · unfold strt at h
    simp only at *
    rcases h with rfl | rfl
    · have e : a1 + sgn (a1 - a1) = a1 := by rw [Int.sub_self, sgn_zero, Int.add_zero]
      rw [e]
      exact ⟨rfl, sgn_keep fun h => hn (by rw [e, h])⟩
    · have e : a2 + sgn (a2 - a2) = a2 := by rw [Int.sub_self, sgn_zero, Int.add_zero]
      rw [e]
      exact ⟨sgn_keep fun h => hn (by rw [e, h]), rfl⟩
theorem sgn_abs (x : Int) : (sgn x).natAbs ≤ 1 := by unfold sgn; split <;> (try split) <;> omega
theorem wdb {x : Int} (h : -1000 ≤ x ∧ x ≤ 1000) : x.natAbs ≤ 1000 := by omega

/-! ### What is gathered -/
/-- the way in its box -/
def RBox (w : World) (r B : Nat) (L : List (Int × Int)) : Prop := ∃ v, w.heap[r]? = some (.cells #[v] 34) ∧ OwnP w B 24 v L
theorem own_ne {w : World} {r B : Nat} {v u : Value} {L : List (Int × Int)} (hr : w.heap[r]? = some (.cells #[u] 34)) (h : OwnP w B 24 v L) : v.ownBlock ≠ some r := by
  rcases h.2 with ⟨rfl, _⟩ | ⟨g, cap, cur, rfl, _, hh, _⟩
  · simp [Value.ownBlock]
  · intro e
    simp [Value.ownBlock] at e
    subst e
    rw [hr] at hh
    cases hh
theorem RBox.kept {w w1 : World} {r B : Nat} {L : List (Int × Int)} (h : RBox w r B L) (hb : Below w.heap.size w w1) : RBox w1 r B L := by
  obtain ⟨v, h1, h2⟩ := h
  exact ⟨v, (hb.block r (Array.getElem?_eq_some_iff.1 h1).1).trans h1, h2.kept hb⟩
theorem hset1c {w : World} {b : Nat} {x : Value} {t : TypeId} (h : w.heap[b]? = some (.cells #[x] t)) (x' : Value) : (w.setCell ⟨b, 0, none⟩ x').heap[b]? = some (.cells #[x'] t) := by
  unfold World.setCell
  simp only [Array.getElem?_modify, if_pos, h, Option.map_some]
  rfl

set_option maxHeartbeats 2000000 in
set_option maxRecDepth 100000 in
theorem ptell_any (p q : Nat) (x y : Int) (hp : Fl p x) (hq : Fl q y) (hx : x.natAbs < 2 ^ 53) (hy : y.natAbs < 2 ^ 53) (r B : Nat) (L : List (Int × Int)) (w : World) (hBw : B ≤ w.heap.size) (hBr : B ≤ r) (h : RBox w r B L) (hL : L.length ≤ 100000) :
    Calls Try.prog 37 #[.complex .f64 p q, .pointer (some ⟨r, 0, none⟩)] w fun e w' => e = .returned (.tuple #[]) ∧ RBox w' r B (L ++ [(x, y)]) ∧ Below B w w' := by
  obtain ⟨i0, hi, hz0, hz1, hz2⟩ := info_parts info_point
  obtain ⟨v, h1, h2⟩ := h
  have hpt := fun w => ppoint_any p q x y hp hq hx hy w
  have HPT := Lib.hid hpt
  have H1 := Lib.hid h1
  have H2 := Lib.hid h2
  have c0 : w.cell? ⟨r, 0, none⟩ = some v := by simp [World.cell?, h1]
  clear hpt h1 h2 hp hq hx hy
  go_enter Try.func37, Try.ntmps37
  go_wp2
  refine wp_region_calmN 3 4 [(.cells #[.int .i64 x, .int .i64 y] 24, fun b => .slice (some ⟨b, 0, none⟩) 1 1)] (by kernel_rfl) (by simp) (by simp) (by kernel_rfl) fun M => ?_
  simp only [List.take_succ_cons, List.take_zero, List.drop_succ_cons, List.drop_zero, List.length_cons, List.length_nil, List.take_nil]
  have e0 := fun n : In M.w => n.cell (M.cell c0)
  repeat (go_big_quiet_step ((go_at_call 36; with_reducible exact In.call (HPT.out _))))
  refine wpQuiet_nil ?_
  clear e0 M
  refine ⟨rfl, fun n => by simp [go_sem], fun bp hbp _ w4 hw => ?_⟩
  have hb4 := hw.below
  have hH := hw.own bp _ (Gh.set_self _ _ _)
  have ho4 := H2.out.kept hb4
  have hr4 := (hb4.block r (Array.getElem?_eq_some_iff.1 H1.out).1).trans H1.out
  have hB4 := hb4.mono hBw
  have hsz4 : B ≤ w4.heap.size := by have := hB4.size; omega
  have HR4 := Lib.hid hr4
  have HNE := Lib.hid (own_ne hr4 ho4)
  clear hw hr4 c0
  go_wp2_with (at_builtin; refine wpList_append_own _ rfl _ _ 34 rfl B 24 i0 (.agg #[.int .i64 0, .int .i64 0]) 2 16 Try.underlying34 hi hz0 hz1 hz2 rfl (by decide) _ _ _ rfl ho4 ⟨bp, 0, none⟩ 1 1 [.int .i64 x, .int .i64 y] rfl rfl (World.news_of_block (cs := #[.int .i64 x, .int .i64 y]) hH) (by intro u hu; simp at hu; rcases hu with rfl | rfl <;> rfl) (by unfold maxLen; omega) (by omega) hsz4 ?_)
  intro v' w5 h1 h2 _
  have o5 : OwnP w5 B 24 v' (L ++ [(x, y)]) := by
    unfold OwnP
    rw [List.length_append, flat_append]
    exact h1
  have hr5 := (h2.block r (lt_of_block HR4.out) (fun e => HNE.out e.symm)).trans HR4.out
  have hB5 : Below B w w5 := hB4.grown h2 hsz4 (fun j hj => (ho4.lt j hj).1)
  have c5 : w5.cell? ⟨r, 0, none⟩ = some v := by simp [World.cell?, hr5]
  have z5 : w5.frozen? ⟨r, 0, none⟩ = false := by simp [World.frozen?, hr5]
  have hfin : RBox (w5.setCell ⟨r, 0, none⟩ v') r B (L ++ [(x, y)]) := ⟨v', hset1c hr5 v', o5.away ⟨r, 0, none⟩ v' (own_ne hr5 o5)⟩
  have hB6 := hB5.setCell (p := ⟨r, 0, none⟩) hBr v'
  have HF := Lib.hid hfin
  have HB6 := Lib.hid hB6
  obtain ⟨a, n, c, rfl⟩ : ∃ a n c, v' = .slice a n c := by
    rcases o5.2 with ⟨rfl, _⟩ | ⟨g, cap, cur, rfl, _⟩
    · exact ⟨_, _, _, rfl⟩
    · exact ⟨_, _, _, rfl⟩
  clear h1 h2 ho4 hH hb4 hB4 o5 hr5 hB5 hfin hB6
  go_wp2
  go_end0
  exact ⟨rfl, HF.out, HB6.out⟩
end Go.Proofs.Ytddlgnfghecncaa
