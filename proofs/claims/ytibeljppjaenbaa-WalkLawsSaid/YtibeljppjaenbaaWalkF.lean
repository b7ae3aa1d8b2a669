/- The walks of package walk: what moves do, put one on the other. -/
import Derived.Test.YtibeljppjaenbaaWalkA
import Derived.Test.YtibeljppjaenbaaWalkMath
import Derived.Test.YtibeljppjaenbaaWalkRefN
namespace Go.Proofs.Ytibeljppjaenbaa
open Go.RowKit

theorem OwnP.cut {w : World} {B : Nat} {e : TypeId} {a : Option Addr} {n cap : Nat} {l : List (Int × Int)} {t : Int × Int} (h : OwnP w B e (.slice a n cap) (l ++ [t])) (k : Nat) (hk : l.length = k) : OwnP w B e (.slice a k cap) l := by
  refine ⟨by rw [flat_length], ?_⟩
  rcases h.2 with ⟨_, h0⟩ | ⟨g, c, cur, hv, hg, hh, hnc, hcm, hcs, htake⟩
  · simp at h0
  · cases hv
    refine .inr ⟨g, cap, cur, by rw [hk], hg, hh, by rw [List.length_append] at hnc; simp at hnc; omega, hcm, hcs, ?_⟩
    have h1 := congrArg (List.take (l.length * 2)) htake
    rw [List.take_take, flat_append, List.length_append] at h1
    rw [show min (l.length * 2) ((l.length + [t].length) * 2) = l.length * 2 by simp] at h1
    rw [h1, ← flat_length, List.take_left]

/-- what is put on a pile, the top last -/
theorem info_deed : (Try.prog.info? 73).map (fun i => (i.zero, i.size, i.bytes)) = some (some (.agg #[.int .i64 0, .int .i64 0]), 2, 16) := by kernel_rfl

set_option maxHeartbeats 2000000 in
set_option maxRecDepth 100000 in
theorem wput_zero (v : Value) (w : World) :
    Calls Try.prog 44 #[v, .agg #[.int .i64 0, .int .i64 0]] w fun e w' => e = .returned v ∧ Below w.heap.size w w' := by
  go_enter Try.func44, Try.ntmps44
  go_wp2
  go_ret
  exact ⟨rfl, (Below.refl _ _).alloc (Nat.le_refl _) _⟩

set_option maxHeartbeats 2000000 in
set_option maxRecDepth 100000 in
/-- on nothing, or on what is of another sort -/
theorem wput_on (v : Value) (B : Nat) (l : List P2) (x1 x2 : Int) (w : World) (hB : B ≤ w.heap.size) (hl : l.length ≤ 1000000) (hown : OwnP w B 73 v l) (hx : (x1, x2) ≠ (0, 0)) (hs : ∀ t, l.getLast? = some t → sort2 t ≠ sort2 (x1, x2)) :
    Calls Try.prog 44 #[v, .agg #[.int .i64 x1, .int .i64 x2]] w fun e w' => ∃ v', e = .returned v' ∧ OwnP w' B 73 v' (l ++ [(x1, x2)]) ∧ Below B w w' := by
  obtain ⟨i0, hi, hz0, hz1, hz2⟩ := info_parts info_deed
  have hcase : ((x1 == 0) = false) ∨ (x1 = 0 ∧ (x2 == 0) = false) := by
    by_cases e1 : x1 = 0
    · exact .inr ⟨e1, beq_no' (fun e2 => hx (by rw [e1, e2]))⟩
    · exact .inl (beq_no' e1)
  have hp := hown.pairs
  have hown1 := hown.alloc (.cells #[.int .i64 x1, .int .i64 x2] 73)
  have hB1 : Below B w (w.alloc (.cells #[.int .i64 x1, .int .i64 x2] 73)) := (Below.refl _ _).alloc hB _
  have HO := Lib.hid hown1
  have HOW := Lib.hid hown
  have C := Cell2.new w (.int .i64 x1) (.int .i64 x2) 73
  have c0 := C.c0
  have c1 := C.c1
  obtain ⟨a, cap, rfl, hcap, hcells⟩ := hp
  obtain ⟨wA, hwA⟩ : ∃ wA, w.alloc (.cells #[.int .i64 x1, .int .i64 x2] 73) = wA := ⟨_, rfl⟩
  rw [hwA] at HO hB1 c0 c1
  have FIN : ∀ w1, Below wA.heap.size wA w1 → ∀ A : Obj, ∀ v' w2, w2.ownsRow B 73 2 v' (l.length + 1) (flat l ++ [.int .i64 x1, .int .i64 x2]) → (w1.alloc A).grownBy w2 (Value.slice a l.length cap).ownBlock →
      OwnP w2 B 73 v' (l ++ [(x1, x2)]) ∧ Below B w w2 := by
    intro w1 hb A v' w2 h1 h2
    have hz : B ≤ wA.heap.size := Nat.le_trans hB hB1.size
    have hB2 := (hB1.trans (hb.mono hz)).alloc (Nat.le_trans hz hb.size) A
    exact own_next HOW.out rfl hB2 (Nat.le_trans hB hB2.size) h1 h2
  have KEEP : ∀ w1, Below wA.heap.size wA w1 → B ≤ w1.heap.size ∧ (∀ A, (w1.alloc A).ownsRow B 73 2 (.slice a l.length cap) l.length (flat l)) ∧ w1.cell? ⟨w.heap.size, 0, none⟩ = some (.int .i64 x1) ∧ w1.cell? ⟨w.heap.size, 1, none⟩ = some (.int .i64 x2) := by
    intro w1 hb
    exact ⟨Nat.le_trans hB (Nat.le_trans hB1.size hb.size), fun A => (HO.out.kept hb).alloc A, (hb.cell (World.block_lt_of_cell? _ _ c0)).trans c0, (hb.cell (World.block_lt_of_cell? _ _ c1)).trans c1⟩
  have HFIN := Lib.hid FIN
  have HKEEP := Lib.hid KEEP
  clear hown hown1 hx C FIN HOW hB1 HO KEEP
  by_cases hl0 : l.length = 0
  · have : l = [] := List.eq_nil_of_length_eq_zero hl0
    subst this
    clear hs hcells
    have hc : (((0 : Nat) : Int) - 1) = -1 := rfl
    rcases hcase with hx1 | ⟨rfl, hx2⟩
    all_goals
      go_enter Try.func44, Try.ntmps44
      go_wp2
      refine wp_region_calm0 (by kernel_rfl) (by kernel_rfl) fun M => ?_
      repeat (go_big_quiet_step (fail))
      refine wpQuiet_nil ?_
      intro w1 hb
      clear c0 c1
      obtain ⟨hz, ho, c0, c1⟩ := HKEEP.out w1 hb
      have HO := Lib.hid ho
      have HF := Lib.hid (HFIN.out w1 hb)
      clear HFIN HKEEP ho hb hwA M
      go_wp2_with (at_builtin; refine wpList_append_own _ rfl _ _ 79 rfl B 73 i0 (.agg #[.int .i64 0, .int .i64 0]) 2 16 Try.underlying79 hi hz0 hz1 hz2 rfl (by decide) _ _ _ rfl (HO.out _) ⟨w1.heap.size, 0, none⟩ 1 1 [.int .i64 _, .int .i64 _] rfl rfl (cells_new _ _ rfl _ _ _) (by intro u hu; simp at hu; rcases hu with rfl | rfl <;> rfl) (by unfold maxLen; simp) (by simp) (by simp; omega) ?_)
      intro v' w2 h1 h2 _
      have hF := HF.out _ v' w2 h1 h2
      clear h1 h2
      have HF2 := Lib.hid hF
      clear hF
      go_wp2
      go_ret
      exact ⟨v', rfl, HF2.out⟩
  · obtain ⟨g, o, rfl, hg, hcell⟩ := hcells (by omega)
    obtain ⟨l', ⟨t1, t2⟩, rfl⟩ : ∃ l' t, l = l' ++ [t] := ⟨l.dropLast, l.getLast (fun e => hl0 (by rw [e]; rfl)), (List.dropLast_concat_getLast _).symm⟩
    obtain ⟨k, hk⟩ : ∃ k, l'.length = k := ⟨_, rfl⟩
    have hL : (l' ++ [(t1, t2)]).length = k + 1 := by rw [List.length_append, hk]; rfl
    obtain ⟨d0, _⟩ := hcell k (t1, t2) (by rw [List.getElem?_append_right (by omega), hk, Nat.sub_self]; rfl)
    have p0 : wA.cell? ⟨g, o + k * 2, none⟩ = some (.int .i64 t1) := by
      rw [← hwA]
      exact (((Below.refl w.heap.size w).alloc (Nat.le_refl _) _).cell (p := ⟨g, o + k * 2, none⟩) hg).trans d0
    have hsort := hs (t1, t2) (by simp)
    rw [hL] at HFIN HKEEP hcap hl
    rw [hL]
    have hkm : (((k + 1 : Nat) : Int) - 1) = (k : Int) := by omega
    have hk0 : (0 : Int) ≤ (k : Int) := by omega
    have hk1 : (k : Int) < ((k + 1 : Nat) : Int) := by omega
    have hk2 : decide ((k : Int) < 0) = false := decide_eq_false (by omega)
    have hkind : ((x1 == 0) = false ∧ t1 = 0) ∨ (x1 = 0 ∧ (x2 == 0) = false ∧ (t1 == 0) = false) := by
      unfold sort2 at hsort
      simp only [ne_eq, decide_eq_decide] at hsort
      rcases hcase with h | ⟨h1, h2⟩
      · have : x1 ≠ 0 := by simpa using h
        exact .inl ⟨h, by omega⟩
      · exact .inr ⟨h1, h2, beq_no' (by omega)⟩
    clear hcase hs hcells hcell d0 hsort hL hk hl0
    rcases hkind with ⟨hx1, rfl⟩ | ⟨rfl, hx2, ht1⟩
    all_goals
      go_enter Try.func44, Try.ntmps44
      go_wp2
      refine wp_region_calm0 (by kernel_rfl) (by kernel_rfl) fun M => ?_
      have q0 := fun n : In M.w => n.cell (M.cell p0)
      have q1 := fun n : In M.w => n.cell (M.cell c0)
      repeat (go_big_quiet_step (fail))
      refine wpQuiet_nil ?_
      intro w1 hb
      clear c0 c1 q0 q1 p0
      obtain ⟨hz, ho, c0, c1⟩ := HKEEP.out w1 hb
      have HO := Lib.hid ho
      have HF := Lib.hid (HFIN.out w1 hb)
      clear HFIN HKEEP ho hb hwA M
      go_wp2_with (at_builtin; refine wpList_append_own _ rfl _ _ 79 rfl B 73 i0 (.agg #[.int .i64 0, .int .i64 0]) 2 16 Try.underlying79 hi hz0 hz1 hz2 rfl (by decide) _ _ _ rfl (HO.out _) ⟨w1.heap.size, 0, none⟩ 1 1 [.int .i64 _, .int .i64 _] rfl rfl (cells_new _ _ rfl _ _ _) (by intro u hu; simp at hu; rcases hu with rfl | rfl <;> rfl) (by unfold maxLen; omega) (by omega) (by simp; omega) ?_)
      intro v' w2 h1 h2 _
      have hF := HF.out _ v' w2 h1 h2
      clear h1 h2
      have HF2 := Lib.hid hF
      clear hF
      go_wp2
      go_ret
      exact ⟨v', rfl, HF2.out⟩

set_option maxHeartbeats 2000000 in
set_option maxRecDepth 100000 in
/-- two of one sort -/
theorem wput_two (v : Value) (B : Nat) (l : List P2) (t1 t2 x1 x2 : Int) (w : World) (hB : B ≤ w.heap.size) (hl : l.length ≤ 1000000) (hown : OwnP w B 73 v (l ++ [(t1, t2)])) (hx : (x1, x2) ≠ (0, 0)) (hs : sort2 (t1, t2) = sort2 (x1, x2))
    (b1 : t1.natAbs ≤ 1000000000000) (b2 : 0 ≤ t2 ∧ t2 ≤ 3) (b3 : x1.natAbs ≤ 1000000000000) (b4 : 0 ≤ x2 ∧ x2 ≤ 3)
    (Q : Value → World → Prop) (hcall : ∀ u w1, OwnP w1 B 73 u l → Below B w w1 → Calls Try.prog 44 #[u, .agg #[.int .i64 (t1 + x1), .int .i64 ((t2 + x2) % 4)]] w1 fun e w' => ∃ v', e = .returned v' ∧ Q v' w') :
    Calls Try.prog 44 #[v, .agg #[.int .i64 x1, .int .i64 x2]] w fun e w' => ∃ v', e = .returned v' ∧ Q v' w' := by
  have hw1 : IntKind.i64.wrap (t1 + x1) = t1 + x1 := by rw [IntKind.wrap_i64]; omega
  have hw2 : IntKind.i64.wrap (t2 + x2) = t2 + x2 := by rw [IntKind.wrap_i64]; omega
  have hcase : ((x1 == 0) = false) ∨ (x1 = 0 ∧ (x2 == 0) = false) := by
    by_cases e1 : x1 = 0
    · exact .inr ⟨e1, beq_no' (fun e2 => hx (by rw [e1, e2]))⟩
    · exact .inl (beq_no' e1)
  have hp := hown.pairs
  have hB1 : Below B w (w.alloc (.cells #[.int .i64 x1, .int .i64 x2] 73)) := (Below.refl _ _).alloc hB _
  have hown1 := hown.alloc (.cells #[.int .i64 x1, .int .i64 x2] 73)
  have C := Cell2.new w (.int .i64 x1) (.int .i64 x2) 73
  have c0 := C.c0
  have c1 := C.c1
  obtain ⟨a, cap, rfl, hcap, hcells⟩ := hp
  obtain ⟨k, hk⟩ : ∃ k, l.length = k := ⟨_, rfl⟩
  have hL : (l ++ [(t1, t2)]).length = k + 1 := by rw [List.length_append, hk]; rfl
  obtain ⟨g, o, rfl, hg, hcell⟩ := hcells (by omega)
  obtain ⟨d0, d1⟩ := hcell k (t1, t2) (by rw [List.getElem?_append_right (by omega), hk, Nat.sub_self]; rfl)
  obtain ⟨wA, hwA⟩ : ∃ wA, w.alloc (.cells #[.int .i64 x1, .int .i64 x2] 73) = wA := ⟨_, rfl⟩
  rw [hwA] at hB1 hown1 c0 c1
  have p0 : wA.cell? ⟨g, o + k * 2, none⟩ = some (.int .i64 t1) := by
    rw [← hwA]
    exact (((Below.refl w.heap.size w).alloc (Nat.le_refl _) _).cell (p := ⟨g, o + k * 2, none⟩) hg).trans d0
  have p1 : wA.cell? ⟨g, o + k * 2 + 1, none⟩ = some (.int .i64 t2) := by
    rw [← hwA]
    exact (((Below.refl w.heap.size w).alloc (Nat.le_refl _) _).cell (p := ⟨g, o + k * 2 + 1, none⟩) hg).trans d1
  rw [hL] at hcap
  rw [hL] at hown1
  have hcut : ∀ w1, Below wA.heap.size wA w1 → OwnP w1 B 73 (.slice (some ⟨g, o, none⟩) k cap) l ∧ Below B w w1 := fun w1 hb => ⟨(hown1.kept hb).cut k hk, hB1.trans (hb.mono (Nat.le_trans hB hB1.size))⟩
  rw [hL]
  have hkm : (((k + 1 : Nat) : Int) - 1) = (k : Int) := by omega
  have hk0 : (0 : Int) ≤ (k : Int) := by omega
  have hk1 : (k : Int) < ((k + 1 : Nat) : Int) := by omega
  have hk2 : decide ((k : Int) < 0) = false := decide_eq_false (by omega)
  have hkc : (k : Int) ≤ (cap : Int) := by omega
  have hkl : k ≤ 1000000 := by omega
  have hmod := fun w => wmod_any (t2 + x2) w
  have hkind : ((x1 == 0) = false ∧ (t1 == 0) = false) ∨ ((x1 == 0) = true ∧ (x2 == 0) = false ∧ (t1 == 0) = true) := by
    unfold sort2 at hs
    simp only [ne_eq, decide_eq_decide] at hs
    rcases hcase with h | ⟨h1, h2⟩
    · have : x1 ≠ 0 := by simpa using h
      exact .inl ⟨h, beq_no' (by omega)⟩
    · exact .inr ⟨by simp [h1], h2, by simp; omega⟩
  have HC := Lib.hid hcall
  have HCUT := Lib.hid hcut
  have HM := Lib.hid hmod
  clear hcall hcut hmod hcase hs hcells hcell d0 d1 hL hk hown hown1 C hx
  rcases hkind with ⟨hx1, ht1⟩ | ⟨hx1, hx2, ht1⟩
  all_goals
    go_enter Try.func44, Try.ntmps44
    go_wp2
    refine wp_region_calm0 (by kernel_rfl) (by kernel_rfl) fun M => ?_
    have q0 := fun n : In M.w => n.cell (M.cell p0)
    have q1 := fun n : In M.w => n.cell (M.cell c0)
    repeat (go_big_quiet_step (fail))
    refine wpQuiet_nil ?_
    intro w1 hb
    clear q0 q1 M
    replace c0 := (hb.cell (World.block_lt_of_cell? _ _ c0)).trans c0
    replace c1 := (hb.cell (World.block_lt_of_cell? _ _ c1)).trans c1
    replace p0 := (hb.cell (World.block_lt_of_cell? _ _ p0)).trans p0
    replace p1 := (hb.cell (World.block_lt_of_cell? _ _ p1)).trans p1
    go_wp2
    refine wp_region_calmN 18 19 [(.cells #[.int .i64 0, .int .i64 0] 73, fun b => .pointer (some ⟨b, 0, none⟩))] (by kernel_rfl) (by simp) (by simp) (by kernel_rfl) fun M => ?_
    simp only [List.take_succ_cons, List.take_zero, List.drop_succ_cons, List.drop_zero, List.length_cons, List.length_nil, List.take_nil]
    have e1 := fun n : In M.w => n.cell (M.cell p0)
    have e2 := fun n : In M.w => n.cell (M.cell p1)
    have e3 := fun n : In M.w => n.cell (M.cell c0)
    have e4 := fun n : In M.w => n.cell (M.cell c1)
    repeat (go_big_quiet_step ((go_at_call 62; exact In.call_same (HM.out _))))
    refine wpQuiet_nil ?_
    clear e1 e2 e3 e4 M
    refine ⟨rfl, fun n => by simp [go_sem], fun bp hp _ w2 hw => ?_⟩
    have hb2 := hw.below
    have hH := fun a b => heap2_set (hw.own bp _ (Gh.set_self _ _ _)) a b
    obtain ⟨d0, d1, y0, y1⟩ : Cell2 w2 bp (.int .i64 0) (.int .i64 0) := Cell2.of_heap (hw.own bp _ (Gh.set_self _ _ _))
    have hbA := hb.trans (hb2.mono hb.size)
    have nA : wA.heap.size ≤ bp := Nat.le_trans hb.size hp
    have hb3 := (hbA.setCell (p := ⟨bp, 0, none⟩) nA (.int .i64 (t1 + x1))).setCell (p := ⟨bp, 1, none⟩) nA (.int .i64 ((t2 + x2) % 4))
    have hH3 := hH (.int .i64 (t1 + x1)) (.int .i64 ((t2 + x2) % 4))
    clear hb2 hw p0 p1 c0 c1 hH hbA hb
    go_wp2
    clear d0 d1 y0 y1
    generalize (w2.setCell ⟨bp, 0, none⟩ (.int .i64 (t1 + x1))).setCell ⟨bp, 1, none⟩ (.int .i64 ((t2 + x2) % 4)) = W0 at *
    obtain ⟨C0, C1, _, _⟩ := Cell2.of_heap hH3
    refine wp_region_calmT 4 (by kernel_rfl) (by simp) (by kernel_rfl) fun M => ?_
    simp only [List.take_succ_cons, List.take_zero, List.drop_succ_cons, List.drop_zero]
    have r0 := fun n : In M.w => n.cell (M.cell C0)
    have r1 := fun n : In M.w => n.cell (M.cell C1)
    repeat (go_big_quiet_step (fail))
    refine wpQuiet_nil ?_
    intro w4 hb4
    obtain ⟨ho, hb5⟩ := HCUT.out w4 (hb3.trans (hb4.mono hb3.size))
    have hc := HC.out _ _ ho hb5
    clear r0 r1 M C0 C1 hH3
    have HCC := Lib.hid hc
    clear hc ho
    go_wp2_with (go_at_call 44; refine HCC.out.mono ?_; rintro e w5 ⟨v', rfl, hq⟩; have HQ5 := Lib.hid hq; clear hq)
    go_ret
    exact ⟨v', rfl, HQ5.out⟩

/-- a pile, top first -/
theorem psh_last {l : List P2} {t x : P2} (hx : x ≠ (0, 0)) (hs : sort2 t = sort2 x) : psh (l ++ [t]).reverse x = if comb t x = (0, 0) then l.reverse else comb t x :: l.reverse := by
  rw [List.reverse_append]
  unfold psh
  rw [if_neg hx]
  simp only [List.reverse_cons, List.reverse_nil, List.nil_append, List.singleton_append]
  rw [if_pos hs]
theorem psh_other {l : List P2} {x : P2} (hx : x ≠ (0, 0)) (hs : ∀ t, l.getLast? = some t → sort2 t ≠ sort2 x) : psh l.reverse x = x :: l.reverse := by
  unfold psh
  rw [if_neg hx]
  cases h : l.reverse with
  | nil => rfl
  | cons t s =>
    simp only
    rw [if_neg (hs t (by rw [← List.head?_reverse, h]; rfl))]

theorem wput_any (v : Value) (B : Nat) (l : List P2) (x : P2) (w : World) (hB : B ≤ w.heap.size) (hl : l.length ≤ 1000000) (hown : OwnP w B 73 v l) (ha : Alt l.reverse) (hx : Gd x) (hb : ∀ y ∈ l, y.1.natAbs ≤ 1000000000000) (hbx : x.1.natAbs ≤ 1000000000000) :
    Calls Try.prog 44 #[v, .agg #[.int .i64 x.1, .int .i64 x.2]] w fun e w' => ∃ v', e = .returned v' ∧ OwnP w' B 73 v' (psh l.reverse x).reverse ∧ Below B w w' := by
  by_cases h0 : x = (0, 0)
  · subst h0
    refine (wput_zero v w).mono ?_
    rintro e w' ⟨rfl, hb'⟩
    refine ⟨v, rfl, ?_, hb'.mono hB⟩
    rw [show psh l.reverse (0, 0) = l.reverse by unfold psh; rw [if_pos rfl], List.reverse_reverse]
    exact hown.kept hb'
  · by_cases hs : ∀ t, l.getLast? = some t → sort2 t ≠ sort2 x
    · rw [psh_other h0 hs, List.reverse_cons, List.reverse_reverse]
      exact wput_on v B l x.1 x.2 w hB hl hown h0 hs
    · have hs' : ∃ t, l.getLast? = some t ∧ sort2 t = sort2 x := by
        by_cases h : ∃ t, l.getLast? = some t ∧ sort2 t = sort2 x
        · exact h
        · exact absurd (fun t h1 h2 => h ⟨t, h1, h2⟩) hs
      obtain ⟨t, ht, hst⟩ := hs'
      obtain ⟨l', rfl⟩ : ∃ l', l = l' ++ [t] := by
        rw [List.getLast?_eq_some_iff] at ht
        exact ht
      rw [List.reverse_append] at ha
      have hg := ha.head.1
      have hbt := hb t (by simp)
      obtain ⟨t1, t2⟩ := t
      obtain ⟨x1, x2⟩ := x
      refine wput_two v B l' t1 t2 x1 x2 w hB (by rw [List.length_append] at hl; omega) hown h0 hst hbt hg.2 hbx hx.2 (fun v' w' => OwnP w' B 73 v' (psh (l' ++ [(t1, t2)]).reverse (x1, x2)).reverse ∧ Below B w w') ?_
      intro u w1 ho hbl
      rw [psh_last h0 hst]
      have hcg := comb_gd hg hx hst
      by_cases hc : comb (t1, t2) (x1, x2) = (0, 0)
      · rw [if_pos hc, List.reverse_reverse]
        have e1 : t1 + x1 = 0 := congrArg Prod.fst hc
        have e2 : (t2 + x2) % 4 = 0 := congrArg Prod.snd hc
        rw [e1, e2]
        refine (wput_zero u w1).mono ?_
        rintro e w' ⟨rfl, hb'⟩
        exact ⟨u, rfl, ho.kept hb', hbl.trans (hb'.mono (Nat.le_trans hB hbl.size))⟩
      · rw [if_neg hc, List.reverse_cons, List.reverse_reverse]
        refine (wput_on u B l' (t1 + x1) ((t2 + x2) % 4) w1 (Nat.le_trans hB hbl.size) (by rw [List.length_append] at hl; omega) ho hc ?_).mono ?_
        · intro y hy e
          have hcs := comb_sort hg hx hst hc
          rw [show comb (t1, t2) (x1, x2) = (t1 + x1, (t2 + x2) % 4) from rfl] at hcs
          rw [hcs] at e
          cases hr : l'.reverse with
          | nil => rw [List.getLast?_eq_head?_reverse, hr] at hy; cases hy
          | cons z s =>
            rw [List.getLast?_eq_head?_reverse, hr] at hy
            cases hy
            rw [hr] at ha
            exact ha.2.2.1 e.symm
        · rintro e w' ⟨v', rfl, h1, h2⟩
          exact ⟨v', rfl, h1, hbl.trans h2⟩
end Go.Proofs.Ytibeljppjaenbaa
