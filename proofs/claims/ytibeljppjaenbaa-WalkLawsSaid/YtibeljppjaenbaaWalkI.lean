/- The walks of package walk: a walk the other way round. -/
import Derived.Test.YtibeljppjaenbaaWalkRefC
import Derived.Test.YtibeljppjaenbaaRound
import Derived.Test.YtibeljppjaenbaaGaussR
import Derived.Lib.SmallJoins
import Derived.Deep.AppendLies
namespace Go.Proofs.Ytibeljppjaenbaa
open Go.RowKit Go.Shelf
attribute [local go_sem] Oper.semAt_some

/-- a kind the other way round -/
def ag (k : Int) : Int := if k = 1 then 2 else if k = 2 then 1 else if k = 3 then 4 else if k = 4 then 3 else k
theorem rev1_ag (k n : Int) : rev1 (k, n) = (ag k, n) := rfl

theorem wagainst_any (k : Int) (w : World) : Calls Try.prog 50 #[.int .i64 k] w fun e w' => e = .returned (.int .i64 (ag k)) ∧ w = w' := by
  have hk : k = 1 ∨ k = 2 ∨ k = 3 ∨ k = 4 ∨ (k ≠ 1 ∧ k ≠ 2 ∧ k ≠ 3 ∧ k ≠ 4) := by omega
  rcases hk with rfl | rfl | rfl | rfl | ⟨n1, n2, n3, n4⟩
  · go_enter Try.func50, Try.ntmps50
    go_wp2
    go_ret
    exact ⟨rfl, rfl⟩
  · go_enter Try.func50, Try.ntmps50
    go_wp2
    go_ret
    exact ⟨rfl, rfl⟩
  · go_enter Try.func50, Try.ntmps50
    go_wp2
    go_ret
    exact ⟨rfl, rfl⟩
  · go_enter Try.func50, Try.ntmps50
    go_wp2
    go_ret
    exact ⟨rfl, rfl⟩
  · have e : ag k = k := by unfold ag; rw [if_neg n1, if_neg n2, if_neg n3, if_neg n4]
    rw [e]
    have m1 := (show (k == 1) = false by simpa using n1)
    have m2 := (show (k == 2) = false by simpa using n2)
    have m3 := (show (k == 3) = false by simpa using n3)
    have m4 := (show (k == 4) = false by simpa using n4)
    clear n1 n2 n3 n4 e
    go_enter Try.func50, Try.ntmps50
    go_wp2
    go_ret
    exact ⟨rfl, rfl⟩

/-- what has come of a list, from its end down to place k -/
def dn (l : List (Int × Int)) (k : Nat) : List (Int × Int × Int) := (((List.range l.length).drop k).map fun (i : Nat) => ((i : Int), l[i]?.getD (0, 0))).reverse
theorem dn_all (l : List (Int × Int)) : dn l l.length = [] := by unfold dn; rw [List.drop_eq_nil_of_le (by simp)]; rfl
theorem dn_step (l : List (Int × Int)) (j : Nat) (h : j < l.length) : dn l j = dn l (j + 1) ++ [((j : Int), l[j])] := by
  unfold dn
  have hj : j < (List.range l.length).length := by simpa using h
  rw [List.drop_eq_getElem_cons hj, List.map_cons, List.reverse_cons]
  simp [h]
theorem dn_length (l : List (Int × Int)) (k : Nat) : (dn l k).length = l.length - k := by unfold dn; simp
theorem dn_zero (l : List (Int × Int)) : (dn l 0).map (fun x => rev1 x.2) = revw l := by
  unfold dn revw
  rw [List.drop_zero, List.map_reverse, List.map_map, List.map_reverse]
  congr 1
  refine List.ext_getElem ?_ fun i h1 h2 => ?_
  · simp
  · have hi : i < l.length := by simpa using h1
    simp [hi]

/-- what a round keeps: all below B, and block b -/
def Kpb (B b : Nat) (W W' : World) : Prop := Below B W W' ∧ W'.heap[b]? = W.heap[b]?
theorem Kpb.t {B b : Nat} {X Y Z : World} (h : Kpb B b X Y) (k : Kpb B b Y Z) : Kpb B b X Z := ⟨h.1.trans k.1, k.2.trans h.2⟩

def encb (x : Int × Int × Int) : Array Value := #[.int .i64 x.1, .agg #[.int .i64 x.2.1, .int .i64 x.2.2]]

set_option maxRecDepth 100000 in
set_option maxHeartbeats 2000000 in
theorem back1_in (F : Fence) (n : Nat) (h63 : F.fn 63) (hro : F.round = none) (hn : 1 ≤ n) (lp Bs B : Nat) (va : Value) (l : List (Int × Int)) (hl : l.length ≤ 1000000) (J Jx : List (Int × Int × Int) → World → Prop)
    (hY : ∀ pre x W, J pre W → pre.length < l.length → YieldAt F (n - 1) Try.prog lp (encb x) W fun e W' =>
      (e = .returned (.bool true) ∧ J (pre ++ [x]) W' ∧ Kpb B Bs W W') ∨ (e = .returned (.bool false) ∧ Jx (pre ++ [x]) W'))
    (w W : World) (hBs : W.heap[Bs]? = some (.cells #[va] 22)) (hw : w.heap.size ≤ B) (hB : Below B w W) (hc : PairsAt w va l) (h0 : J [] W) :
    CallsIn F n Try.prog 63 #[.func (.yield lp) #[] #[], .pointer (some ⟨Bs, 0, none⟩)] W fun e W' => (∃ v, e = .returned v) ∧
      ((∃ ys, ys = dn l 0 ∧ J ys W') ∨ (∃ pre, True ∧ Jx pre W')) := by
  obtain ⟨a, cap, rfl, hcap, hcells⟩ := hc
  have c0 : W.cell? ⟨Bs, 0, none⟩ = some (.slice a l.length cap) := by simp [World.cell?, hBs]
  refine callsIn_of_wp Try.func63 rfl h63 ?_ hro
  simp only [Try.ntmps63, List.size_toArray, List.length_cons, List.length_nil, Nat.reduceAdd, Nat.reduceSub, Array.replicate_succ, Array.replicate_zero, List.push_toArray, List.append_toArray, List.nil_append, List.cons_append]
  gi_wp2
  gi_loopw [3] (fun i wr => ∃ k : Nat, k ≤ l.length ∧ i = .int .i64 (k - 1) ∧ J (dn l k) wr ∧ Kpb B Bs W wr)
    (fun i _ => (intOf i + 1).toNat)
  case atStart => exact ⟨l.length, Nat.le_refl _, rfl, by rw [dn_all]; exact h0, Below.refl _ _, rfl⟩
  case round =>
    obtain ⟨k, hk, rfl, hJ, hK⟩ := hrel
    have c1 : wr.cell? ⟨Bs, 0, none⟩ = some (.slice a l.length cap) := by simp [World.cell?, hK.2.trans hBs]
    by_cases hk0 : k = 0
    · subst hk0
      gi_wp2
      go_end0
      exact ⟨⟨_, rfl⟩, .inl ⟨_, rfl, hJ⟩⟩
    · obtain ⟨j, rfl⟩ : ∃ j, k = j + 1 := ⟨k - 1, by omega⟩
      have hj : j < l.length := by omega
      obtain ⟨ga, oa, rfl, hga, hxa⟩ := hcells (by omega)
      have hstep := dn_step l j hj
      obtain ⟨⟨x1, x2⟩, hx⟩ : ∃ x, l[j]'hj = x := ⟨_, rfl⟩
      have hx0 := hxa j _ (List.getElem?_eq_getElem hj)
      rw [hx] at hx0 hstep
      have hBB := hB.trans hK.1
      have p1 : wr.cell? ⟨ga, oa + j * 2, none⟩ = some (.int .i64 x1) := (hBB.cell (p := ⟨ga, oa + j * 2, none⟩) (show ga < B by omega)).trans hx0.1
      have p2 : wr.cell? ⟨ga, oa + j * 2 + 1, none⟩ = some (.int .i64 x2) := (hBB.cell (p := ⟨ga, oa + j * 2 + 1, none⟩) (show ga < B by omega)).trans hx0.2
      obtain ⟨fn, tmps, assign, body, hy, hR⟩ := hY _ ((j : Int), x1, x2) wr hJ (by rw [dn_length]; omega)
      rw [← hstep] at hR
      unfold encb at hy
      dsimp only at hy
      have hjm : (((j + 1 : Nat) : Int) - 1) = (j : Int) := by omega
      have hj0 : 0 ≤ (j : Int) := by omega
      have hj1 : (j : Int) < l.length := by omega
      rw [hjm]
      clear hx0 hxa hcells hx hstep hjm hk0 hk
      gi_wp2
      refine hR.mono ?_
      rintro e W3 (⟨rfl, hJ3, hk3⟩ | ⟨rfl, hJx3⟩)
      · gi_wp2
        go_roundw
        case rel => exact ⟨j, by omega, by go_num, hJ3, hK.t hk3⟩
        case measure => (simp [intOf]) <;> omega
      · gi_wp2
        refine bodyPost_ret (results_none rfl _ _ _) rfl ?_
        exact ⟨⟨_, rfl⟩, .inr ⟨_, trivial, hJx3⟩⟩

set_option maxHeartbeats 1000000 in
theorem back_in (F : Fence) (n : Nat) (h49 : F.fn 49) (hro : F.round = none) (a : Option Addr) (len cap : Nat) (w : World) :
    CallsIn F n Try.prog 49 #[.slice a len cap] w fun e w' => e = .returned (.func (.func 63) #[] #[.pointer (some ⟨w.heap.size, 0, none⟩)]) ∧ w' = w.alloc (.cells #[.slice a len cap] 22) := by
  refine callsIn_of_wp Try.func49 rfl h49 ?_ hro
  simp only [Try.ntmps49, List.size_toArray, List.length_cons, List.length_nil, Nat.reduceAdd, Nat.reduceSub, Array.replicate_succ, Array.replicate_zero, List.push_toArray, List.append_toArray, List.nil_append, List.cons_append]
  gi_wp2
  go_ret
  exact ⟨rfl, rfl⟩
theorem back_stops (F : Fence) (n : Nat) (h63 : F.fn 63) (hro : F.round = none) (hn : 1 ≤ n) (Bs B : Nat) (va : Value) (l : List (Int × Int)) (hl : l.length ≤ 1000000) (w0 w : World)
    (hBs : w.heap[Bs]? = some (.cells #[va] 22)) (hw : w0.heap.size ≤ B) (hBw : B ≤ w.heap.size) (hB : Below B w0 w) (hc : PairsAt w0 va l) :
    SeqStopsK F n Try.prog 63 #[.pointer (some ⟨Bs, 0, none⟩)] encb (Kpb B Bs) (fun ys => ys = dn l 0) (fun _ => True) l.length w := fun lp J Jx W hW _ _ hY h0 =>
  back1_in F n h63 hro hn lp Bs B va l hl J Jx hY w0 W ((hW.block Bs (lt_of_block hBs)).trans hBs) hw (hB.trans (hW.mono hBw)) hc h0

theorem not_row {w : World} {B k n size : Nat} {e t : TypeId} {v : Value} {xs : List Value} {c : Array Value} (h : w.ownsRow B e size v n xs) (hk : w.heap[k]? = some (.cells c t)) (hne : e ≠ t) : v.ownBlock ≠ some k := by
  rcases h.2 with ⟨rfl, h0⟩ | ⟨g, cap, cur, rfl, hg, hh, _⟩
  · simp [Value.ownBlock]
  · intro e
    simp [Value.ownBlock] at e
    subst e
    rw [hk] at hh
    cases hh
    exact hne rfl
theorem keeps_below {W W' : World} (h : Below W.heap.size W W') : KeepsOthers W W' := ⟨h.size, fun k o hk _ => (h.block k (lt_of_block hk)).trans hk⟩
theorem cells2_own (B b : Nat) (x y : Value) (t : TypeId) : OwnFrom B (fun (_ : Unit) W => W.heap[b]? = some (.cells #[x, y] t)) := fun _ X Y row hs hg hr => by
  refine (hg.block b (lt_of_block hs) (fun e => ?_)).trans hs
  obtain ⟨_, o, ho, hc⟩ := hr b e.symm
  rw [hs] at ho
  cases ho
  cases hc

theorem row_kept' {w w1 : World} {B size n : Nat} {e : TypeId} {v : Value} {xs : List Value} (h : w.ownsRow B e size v n xs) (hb : Below w.heap.size w w1) : w1.ownsRow B e size v n xs := by
  refine ⟨h.1, ?_⟩
  rcases h.2 with h0 | ⟨g, cap, cur, rfl, hg, hh, rest⟩
  · exact .inl h0
  · exact .inr ⟨g, cap, cur, rfl, hg, (hb.block g (lt_of_block hh)).trans hh, rest⟩
theorem heap1_set' {w : World} {b : Nat} {x : Value} {t : TypeId} (h : w.heap[b]? = some (.cells #[x] t)) (x' : Value) : (w.setCell ⟨b, 0, none⟩ x').heap[b]? = some (.cells #[x'] t) := by
  unfold World.setCell
  simp only [Array.getElem?_modify, if_pos, h, Option.map_some]
  rfl
theorem set_keep' {w : World} {k j : Nat} {o : Obj} (h : w.heap[k]? = some o) (i : Nat) (u : Value) (hne : k ≠ j) : (w.setCell ⟨j, i, none⟩ u).heap[k]? = some o := by
  rw [Below.heap_setCell w ⟨j, i, none⟩ u k hne]
  exact h

set_option maxRecDepth 100000 in
set_option maxHeartbeats 4000000 in
theorem wReverse_any (va : Value) (l : List (Int × Int)) (w : World) (ha : PairsAt w va l) (hl : l.length ≤ 1000000) :
    Calls Try.prog 21 #[va] w fun e w' => ∃ v, e = .returned v ∧ PairsAt w' v (revw l) ∧ Below w.heap.size w w' := by
  obtain ⟨i0, hi, hz0, hz1, hz2⟩ := info_parts info_move
  have hform : ∃ a c, va = .slice a l.length c := by obtain ⟨a, c, e, _⟩ := ha; exact ⟨a, c, e⟩
  obtain ⟨a, ca, rfl⟩ := hform
  refine (callsIn_wide (n := 8)).1 ?_
  refine callsIn_of_wp_marks Try.func21 rfl trivial ?_ rfl
  simp only [Try.ntmps21, List.size_toArray, List.length_cons, List.length_nil, Nat.reduceAdd, Nat.reduceSub, Array.replicate_succ, Array.replicate_zero, List.push_toArray, List.append_toArray, List.nil_append, List.cons_append]
  gi_wp2_with (refine ⟨trivial, ?_⟩; gi_at_call 49; refine (back_in Fence.wide (8 - 1) trivial rfl _ _ _ _).mono ?_; rintro e w' ⟨rfl, rfl⟩)
  have bO := (Boxed.new w 22 (.slice none 0 0)).alloc (.cells #[.slice a l.length ca] 22)
  have bL := Boxed.new (w.alloc (.cells #[.slice none 0 0] 22)) 22 (.slice a l.length ca)
  rw [World.size_alloc] at bL
  have hB0 : Below w.heap.size w ((w.alloc (.cells #[.slice none 0 0] 22)).alloc (.cells #[.slice a l.length ca] 22)) := ((Below.refl _ w).alloc (Nat.le_refl _) _).alloc (by simp) _
  have hsz : ((w.alloc (.cells #[.slice none 0 0] 22)).alloc (.cells #[.slice a l.length ca] 22)).heap.size = w.heap.size + 2 := by simp
  obtain ⟨W0, hW0⟩ : ∃ W0, (w.alloc (.cells #[.slice none 0 0] 22)).alloc (.cells #[.slice a l.length ca] 22) = W0 := ⟨_, rfl⟩
  rw [hW0] at bO bL hB0 hsz ⊢
  clear hW0
  refine wpIn_rangeFunc_ownH rfl (by omega) (gf := 63) (lb := #[.pointer (some ⟨w.heap.size + 1, 0, none⟩)]) rfl trivial (enters_of Try.func63 (by kernel_rfl) rfl)
    (back_stops Fence.wide (8 - 1) trivial rfl (by omega) (w.heap.size + 1) w.heap.size (.slice a l.length ca) l hl w W0 bL (Nat.le_refl _) (by omega) hB0 ha) Kpb.t
    (fun W k o o' h1 h2 h3 h4 => ⟨belowK_b (w := W0) (by omega) W k o o' h1 h2 h3 h4, World.putObj_heap_other (by omega)⟩) (Below.refl _ _) (fun _ => rfl)
    (fun (pre : List (Int × Int × Int)) W => ((∃ v, Boxed W w.heap.size 22 v ∧ W.ownsRow w.heap.size 48 2 v pre.length (flat (pre.map fun x => rev1 x.2)) ∧ True) ∧ Boxed W (w.heap.size + 1) 22 (.slice a l.length ca)) ∧ Below w.heap.size w W)
    (fun _ _ _ => False)
    (OwnFrom.and (OwnFrom.and (Own.from (holdsRow_own w.heap.size w.heap.size 22 48 2 (fun (pre : List (Int × Int × Int)) => pre.length) (fun pre => flat (pre.map fun x => rev1 x.2)) (fun _ _ => True)) _) (Own.from (boxed_own _ _ _) _)) (ownFrom_below (Nat.le_refl _) (by omega)))
    (fun _ _ _ _ _ hs _ _ => hs)
    ⟨⟨⟨_, bO, World.ownsRow_nil _ _ _ _, trivial⟩, bL⟩, hB0⟩
    (fun x a' W => ∃ Bx, W.heap[Bx]? = some (.cells #[.int .i64 x.2.1, .int .i64 x.2.2] 48) ∧ a' = { tmps := #[.slice a l.length ca, undef, .slice none 0 0, .pointer (some ⟨w.heap.size, 0, none⟩), undef, .pointer (some ⟨Bx, 0, none⟩), .slice a l.length ca, .func (.func 63) #[] #[.pointer (some ⟨w.heap.size + 1, 0, none⟩)], .int .i64 x.1, .agg #[.int .i64 x.2.1, .int .i64 x.2.2], undef, undef, undef, undef, undef, undef, undef, undef, undef, undef], defers := [] })
    (fun x a' _ X Y row hs hg hr => by obtain ⟨Bx, h1, h2⟩ := hs; exact ⟨Bx, cells2_own _ Bx _ _ _ () X Y row h1 hg hr, h2⟩)
    ?assign ?body ?done ?stop
  case assign =>
    rintro lp pre ⟨xi, x1, x2⟩ W K ⟨⟨⟨v, bv, hrow, _⟩, bl⟩, hB⟩ hK
    simp only [encb]
    gi_wp2
    exact hK _ _ ((KeepsOthers.alloc _ _).from _) ⟨(Below.refl _ W).alloc hB.size _, Below.heap_alloc W _ _ bl.lt⟩ ⟨⟨⟨v, bv.alloc _, hrow.alloc _, trivial⟩, bl.alloc _⟩, hB.alloc hB.size _⟩ ⟨W.heap.size, heap_alloc_new W _, rfl⟩
  case body =>
    rintro lp pre ⟨xi, x1, x2⟩ a' W hlp _ ⟨⟨⟨v, bv, hrow, _⟩, bl⟩, hB⟩ ⟨Bx, hx, rfl⟩ hlt
    simp only at hx
    have c0 := bv.cell
    obtain ⟨d0, d1, _, _⟩ := Cell2.of_heap hx
    have hpl : pre.length < 1000000 := by omega
    have hflat : flat ((pre ++ [(xi, x1, x2)]).map fun x => rev1 x.2) = flat (pre.map fun x => rev1 x.2) ++ [.int .i64 (ag x1), .int .i64 x2] := by
      rw [List.map_append, flat_append]
      rfl
    have hplen : (pre ++ [(xi, x1, x2)]).length = pre.length + 1 := by simp
    have HR := Lib.hid hrow
    have HF := Lib.hid hflat
    generalize flat (pre.map fun x => rev1 x.2) = xs at *
    have HBV := Lib.hid bv
    have HBL := Lib.hid bl
    clear hrow hflat bv bl
    refine wpIn_block ?_
    refine wpIn_region_calmN 7 8 [(.cells #[.int .i64 (ag x1), .int .i64 x2] 48, fun b => .slice (some ⟨b, 0, none⟩) 1 1)] (by kernel_rfl) (by simp) (by simp) (by kernel_rfl) (by rfl) (fun ⟨_, _, h⟩ => h) fun M => ?_
    simp only [List.take_succ_cons, List.take_zero, List.drop_succ_cons, List.drop_zero, List.length_cons, List.length_nil, List.take_nil]
    have e1 := fun n : In M.w => n.cell (M.cell c0)
    have e2 := fun n : In M.w => n.cell (M.cell d0)
    have e3 := fun n : In M.w => n.cell (M.cell d1)
    repeat (go_big_quiet_step ((go_at_call 50; with_reducible exact In.call_same (wagainst_any _ _))))
    refine wpQuiet_nil ?_
    clear e1 e2 e3 M c0 d0 d1
    refine ⟨rfl, fun n => by simp [go_sem], fun bp hbp _ w2 hw => ?_⟩
    have hb2 := hw.below
    have hH := hw.own bp _ (Gh.set_self _ _ _)
    have hrow2 := row_kept' HR.out hb2
    have hv2 : w2.heap[w.heap.size]? = some (.cells #[v] 22) := (hb2.block _ HBV.out.lt).trans HBV.out
    have hl2 : w2.heap[w.heap.size + 1]? = some (.cells #[.slice a l.length ca] 22) := (hb2.block _ HBL.out.lt).trans HBL.out
    have hsz2 := Nat.le_trans hB.size hb2.size
    clear hw
    go_wp2_with (at_builtin; refine wpList_append_own _ rfl _ _ 22 rfl w.heap.size 48 i0 (.agg #[.int .i64 0, .int .i64 0]) 2 16 Try.underlying22 hi hz0 hz1 hz2 rfl (by decide) _ _ _ rfl hrow2 ⟨bp, 0, none⟩ 1 1 [.int .i64 (ag x1), .int .i64 x2] rfl rfl (World.news_of_block (cs := #[.int .i64 (ag x1), .int .i64 x2]) hH) (by intro u hu; simp at hu; rcases hu with rfl | rfl <;> rfl) (by unfold maxLen; omega) (by omega) hsz2 ?_)
    intro v' w3 h1 h2 _
    have n1 : v.ownBlock ≠ some w.heap.size := not_row HR.out HBV.out (by decide)
    have n2 : v.ownBlock ≠ some (w.heap.size + 1) := not_row HR.out HBL.out (by decide)
    have hv3 : w3.heap[w.heap.size]? = some (.cells #[v] 22) := (h2.block _ (lt_of_block hv2) (fun e => n1 e.symm)).trans hv2
    have hl3 : w3.heap[w.heap.size + 1]? = some (.cells #[.slice a l.length ca] 22) := (h2.block _ (lt_of_block hl2) (fun e => n2 e.symm)).trans hl2
    have q0 : w3.cell? ⟨w.heap.size, 0, none⟩ = some v := by simp [World.cell?, hv3]
    have f0 : w3.frozen? ⟨w.heap.size, 0, none⟩ = false := by simp [World.frozen?, hv3]
    have hbl3 : Below w.heap.size W w3 := (hb2.mono hB.size).grown h2 hsz2 (fun k hk => (HR.out.lt k hk).1)
    have hko : KeepsOthers W w3 := (keeps_below hb2).trans (KeepsOthers.of_grownBy h2 fun j o ej hj => by
      rcases hrow2.2 with ⟨rfl, _⟩ | ⟨g, cap, cur, rfl, _, hgb, _⟩
      · simp [Value.ownBlock] at ej
      · obtain rfl : g = j := by simpa [Value.ownBlock] using ej
        rw [hgb] at hj
        cases hj
        rfl)
    obtain ⟨g', cap', rfl⟩ := ownsRow_succ h1
    have n3 := not_row h1 hv3 (by decide)
    have H1 := Lib.hid h1
    have HV3 := Lib.hid hv3
    have HL3 := Lib.hid hl3
    have HB3 := Lib.hid hbl3
    have HK3 := Lib.hid hko
    clear h1 h2 hrow2 hH hv2 hl2 hv3 hl3 hbl3 hko hb2
    go_wp2
    refine ⟨(HK3.out.trans (KeepsOthers.setCell _ _ _)).from _, ⟨HB3.out.setCell (Nat.le_refl _) _, ?_⟩, ⟨⟨_, heap1_set' HV3.out _, ?_⟩, set_keep' HL3.out _ _ (by omega)⟩, hB.trans (HB3.out.setCell (Nat.le_refl _) _)⟩
    · rw [set_keep' HL3.out _ _ (by omega), HBL.out]
    · rw [hplen, HF.out]
      exact H1.out.kept (grownBy_setCell' w3 w.heap.size _) (.inr n3)
  case done =>
    rintro D ys W hD rfl ⟨⟨⟨v, bv, hrow, _⟩, bl⟩, hB⟩ hK
    have hc := bv.cell
    gi_wp2
    refine ⟨by simp, .inl ⟨_, _, rfl, run_takeDeferred hK, ?_⟩⟩
    have hrow' := ownsRow_putObj hrow (.deferred none) hK rfl
    have ho : OwnP (W.putObj D (.deferred none)) w.heap.size 48 v ((dn l 0).map fun x => rev1 x.2) := by
      unfold OwnP
      rw [List.length_map]
      exact hrow'
    rw [dn_zero] at ho
    exact ⟨_, results_tmp rfl _ _ _, v, rfl, ho.pairs, hB.trans (belowK_b (w := w) (Nat.le_refl _) W D _ _ (by omega) hK rfl rfl)⟩
  case stop =>
    rintro D c pre W _ _ h _
    exact h.elim
end Go.Proofs.Ytibeljppjaenbaa
