/- The walks of the document's answers for layer 5: each point that a walk comes to. -/
import Derived.Test.YtibeljppjaenbaaWalkRefC
namespace Go.Proofs.Ytibeljppjaenbaa
open Go.RowKit

/-- a row of steps from a point on -/
def tline (x y dx dy : Int) : Nat → List (Int × Int)
  | 0 => []
  | n + 1 => tline x y dx dy n ++ [(x + ((n : Int) + 1) * dx, y + ((n : Int) + 1) * dy)]
theorem tline_length (x y dx dy : Int) (n : Nat) : (tline x y dx dy n).length = n := by
  induction n with
  | zero => rfl
  | succ n ih => simp [tline, ih]
/-- what a move adds to the points -/
def tadd (s : Int × Int × Int) (m : Int × Int) : List (Int × Int) :=
  if m.1 = 1 then tline s.2.1 s.2.2 (uq (s.1 % 4).toNat) (vq (s.1 % 4).toNat) (cnt m).toNat
  else if m.1 = 2 then tline s.2.1 s.2.2 (-uq (s.1 % 4).toNat) (-vq (s.1 % 4).toNat) (cnt m).toNat
  else []
/-- the points of a walk -/
def tpts : List (Int × Int) → (Int × Int × Int) → List (Int × Int)
  | [], _ => []
  | m :: l, s => tadd s m ++ tpts l (estep s m)
theorem tpts_append (a b : List (Int × Int)) (s : Int × Int × Int) : tpts (a ++ b) s = tpts a s ++ tpts b (a.foldl estep s) := by
  induction a generalizing s with
  | nil => rfl
  | cons m a ih => simp [tpts, ih]
theorem tpts_succ (l : List (Int × Int)) (k : Nat) (h : k < l.length) : tpts (l.take (k + 1)) (0, 0, 0) = tpts (l.take k) (0, 0, 0) ++ tadd (eend (l.take k)) l[k] := by
  rw [List.take_add_one, List.getElem?_eq_getElem h, tpts_append]
  simp [tpts, eend]
theorem tadd_length (s : Int × Int × Int) (m : Int × Int) : ((tadd s m).length : Int) = if m.1 = 1 ∨ m.1 = 2 then cnt m else 0 := by
  have := cnt_bd m
  unfold tadd
  split
  · rw [tline_length, if_pos (by omega)]; omega
  · split
    · rw [tline_length, if_pos (by omega)]; omega
    · rw [if_neg (by omega)]; rfl
theorem tpts_length (l : List (Int × Int)) (s : Int × Int × Int) : ((tpts l s).length : Int) = stps l := by
  induction l generalizing s with
  | nil => rfl
  | cons m l ih => simp only [tpts, List.length_append, stps, Int.natCast_add, ih, tadd_length]

theorem OwnP.kept {w w1 : World} {B : Nat} {e : TypeId} {v : Value} {l : List (Int × Int)} (h : OwnP w B e v l) (hb : Below w.heap.size w w1) : OwnP w1 B e v l := by
  refine ⟨h.1, ?_⟩
  rcases h.2 with h0 | ⟨g, cap, cur, rfl, hg, hh, rest⟩
  · exact .inl h0
  · exact .inr ⟨g, cap, cur, rfl, hg, (hb.block g (lt_of_block hh)).trans hh, rest⟩
theorem OwnP.away {w : World} {B : Nat} {e : TypeId} {v : Value} {l : List (Int × Int)} (h : OwnP w B e v l) (p : Addr) (u : Value) (hne : v.ownBlock ≠ some p.block) : OwnP (w.setCell p u) B e v l := by
  refine ⟨h.1, ?_⟩
  rcases h.2 with h0 | ⟨g, cap, cur, rfl, hg, hh, rest⟩
  · exact .inl h0
  · refine .inr ⟨g, cap, cur, rfl, hg, ?_, rest⟩
    have hgp : g ≠ p.block := fun e => hne (by simp [Value.ownBlock, e])
    rw [Below.heap_setCell w p u g (by intro e; exact hgp e)]
    exact hh
/-- a list of two or more lies in no block of two cells -/
theorem OwnP.other {w : World} {B : Nat} {e : TypeId} {v : Value} {l : List (Int × Int)} (h : OwnP w B e v l) (hl : 2 ≤ l.length) {b : Nat} {x y : Value} {t : TypeId} (hb : w.heap[b]? = some (.cells #[x, y] t)) : v.ownBlock ≠ some b := by
  rcases h.2 with ⟨rfl, h0⟩ | ⟨g, cap, cur, rfl, hg, hh, hnc, hcp, hcs, _⟩
  · simp [Value.ownBlock]
  · intro e
    simp [Value.ownBlock] at e
    subst e
    rw [hb] at hh
    simp only [Option.some.injEq, Obj.cells.injEq] at hh
    have h2 : cur.size = 2 := by rw [← hh.1]; rfl
    omega
theorem OwnP.keeps {w w1 : World} {B : Nat} {e : TypeId} {v : Value} {l : List (Int × Int)} (_h : OwnP w B e v l) {wq : World} (hg : wq.grownBy w1 v.ownBlock) {b : Nat} {o : Obj} (hb : wq.heap[b]? = some o) (hne : v.ownBlock ≠ some b) : w1.heap[b]? = some o := by
  have hlt : b < wq.heap.size := lt_of_block hb
  rw [hg.block b hlt (fun e => hne e.symm)]
  exact hb

theorem heap2_set {w : World} {b : Nat} {x y : Value} {t : TypeId} (h : w.heap[b]? = some (.cells #[x, y] t)) (x' y' : Value) : ((w.setCell ⟨b, 0, none⟩ x').setCell ⟨b, 1, none⟩ y').heap[b]? = some (.cells #[x', y'] t) := by
  unfold World.setCell
  simp only [Array.getElem?_modify, if_pos, h, Option.map_some]
  rfl
theorem own_one (w : World) (B : Nat) (hB : B ≤ w.heap.size) (e : TypeId) (x y : Int) : OwnP (w.alloc (.cells #[.int .i64 x, .int .i64 y] e)) B e (.slice (some ⟨w.heap.size, 0, none⟩) 1 1) [(x, y)] :=
  ⟨rfl, .inr ⟨w.heap.size, 1, #[.int .i64 x, .int .i64 y], rfl, hB, heap_alloc_new w _, Nat.le_refl _, by decide, rfl, rfl⟩⟩
theorem info_point : (Try.prog.info? 34).map (fun i => (i.zero, i.size, i.bytes)) = some (some (.agg #[.int .i64 0, .int .i64 0]), 2, 16) := by kernel_rfl

theorem lin_on (X u : Int) (j : Nat) : X + j * u + 1 * u = X + ((j + 1 : Nat) : Int) * u := by rw [Int.natCast_add, Int.add_mul]; omega
theorem lin_back (X u : Int) (j : Nat) : X + j * -u + -1 * u = X + ((j + 1 : Nat) : Int) * -u := by rw [Int.natCast_add, Int.add_mul]; omega
theorem lin_bd {X u : Int} {j : Nat} (hX : X.natAbs ≤ 300 * 1048576) (hj : j ≤ 1048576) (hu : u.natAbs ≤ 1) : (X + j * u).natAbs ≤ 1000000000000 := by
  have h : ((j : Int) * u).natAbs ≤ 1048576 * 1 := mul_bd (by omega) hu
  omega
theorem own_fin {wr wq w w1 : World} {B : Nat} {e t : TypeId} {v v' : Value} {l : List (Int × Int)} {x y : Int} {b : Nat} {X Y : Value} {A : Obj} (hown : OwnP wr B e v l) (hB : Below B w (wq.alloc A)) (hz : B ≤ (wq.alloc A).heap.size)
    (h1 : w1.ownsRow B e 2 v' (l.length + 1) (flat l ++ [.int .i64 x, .int .i64 y])) (h2 : (wq.alloc A).grownBy w1 v.ownBlock) (hb : wq.heap[b]? = some (.cells #[X, Y] t)) (hne : v.ownBlock ≠ some b) (hl : 1 ≤ l.length) :
    OwnP w1 B e v' (l ++ [(x, y)]) ∧ Below B w w1 ∧ w1.heap[b]? = some (.cells #[X, Y] t) ∧ v'.ownBlock ≠ some b := by
  have o : OwnP w1 B e v' (l ++ [(x, y)]) := by
    unfold OwnP
    rw [List.length_append, flat_append]
    exact h1
  have hh : w1.heap[b]? = some (.cells #[X, Y] t) := hown.keeps h2 ((((Below.refl _ wq).alloc (Nat.le_refl _) A).block b (lt_of_block hb)).trans hb) hne
  exact ⟨o, hown.below hB hz h2, hh, o.other (by rw [List.length_append]; simp; omega) hh⟩

theorem cells_new (w : World) (N : Nat) (hN : w.heap.size = N) (a b : Value) (t : TypeId) : ∀ (j : Nat) (u : Value), [a, b][j]? = some u → (w.alloc (.cells #[a, b] t)).cell? ((⟨N, 0, none⟩ : Addr).add j) = some u := by
  subst hN
  intro j u h
  match j, h with
  | 0, h => simp at h; subst h; simp [Addr.add]
  | 1, h => simp at h; subst h; simp [Addr.add]

/-- what Trace hands back -/
def trc (l : List (Int × Int)) : List (Int × Int) × Int := if 10000 < stps l then ([], 15) else ((0, 0) :: tpts l (0, 0, 0), 0)

set_option maxHeartbeats 8000000 in
set_option maxRecDepth 100000 in
theorem refTrace_any (va : Value) (l : List (Int × Int)) (w : World) (ha : PairsAt w va l) (hl : l.length ≤ 300) :
    Calls Try.prog 15 #[va] w fun e w' => ∃ v, e = .returned (.tuple #[v, .int .i64 (trc l).2]) ∧ PairsAt w' v (trc l).1 ∧ Below w.heap.size w w' := by
  have ha0 := ha
  obtain ⟨a, ca, rfl, hca, ha⟩ := ha
  obtain ⟨i0, hi, hz0, hz1, hz2⟩ := info_parts info_point
  go_enter Try.func15, Try.ntmps15
  go_wp2
  go_loopw [4, 5] (fun n i wr => ∃ (k : Nat) (z : Int), k ≤ l.length ∧ i = .int .i64 k ∧ n = .int .i64 z ∧ stps (l.take k) = z ∧ z ≤ 10000 ∧ Below w.heap.size w wr) (fun _ i _ => l.length - (intOf i).toNat)
  case atStart => exact ⟨0, 0, Nat.zero_le _, rfl, rfl, rfl, by omega, Below.refl _ _⟩
  case round =>
    obtain ⟨k, z, hk, rfl, rfl, hz, hzm, hbel⟩ := hrel
    have HZ := Lib.hid hz
    have z0 : 0 ≤ z := by rw [← hz]; exact stps_nn _
    clear hz
    by_cases hlt : k < l.length
    · obtain ⟨ga, oa, rfl, hga, hxa⟩ := ha (by omega)
      obtain ⟨⟨x1, x2⟩, hx⟩ : ∃ x, l[k]'hlt = x := ⟨_, rfl⟩
      have hx0 := hxa k _ (List.getElem?_eq_getElem hlt)
      rw [hx] at hx0
      have p1 : wr.cell? ⟨ga, oa + k * 2, none⟩ = some (.int .i64 x1) := (hbel.cell (p := ⟨ga, oa + k * 2, none⟩) hga).trans hx0.1
      have p2 : wr.cell? ⟨ga, oa + k * 2 + 1, none⟩ = some (.int .i64 x2) := (hbel.cell (p := ⟨ga, oa + k * 2 + 1, none⟩) hga).trans hx0.2
      have hsucc := stps_succ l k hlt
      rw [hx] at hsucc
      have cb := cnt_bd (x1, x2)
      have hc := fun w => refCount_any x1 x2 w
      obtain ⟨c, hcc⟩ : ∃ c, cnt (x1, x2) = c := ⟨_, rfl⟩
      rw [hcc] at hsucc cb hc
      rw [HZ.out] at hsucc
      have HC := Lib.hid hc
      clear hx0 hxa ha ha0 hc hx hcc
      obtain ⟨c0, c1⟩ := cb
      have hkind : (x1 = 1 ∨ x1 = 2) ∨ ((x1 == 1) = false ∧ (x1 == 2) = false) := by
        by_cases e1 : x1 = 1
        · exact .inl (.inl e1)
        · by_cases e2 : x1 = 2
          · exact .inl (.inr e2)
          · exact .inr ⟨beq_no' e1, beq_no' e2⟩
      rcases hkind with hkd | ⟨e1, e2⟩
      · rw [if_pos hkd] at hsucc
        have HS := Lib.hid hsucc
        clear hsucc
        by_cases hov : 10000 < z + c
        · have hbig : trc l = ([], 15) := by
            unfold trc
            rw [if_pos (by have h1 := stps_take l (k + 1); have := HS.out; omega)]
          have HBIG := Lib.hid hbig
          clear hbig
          rcases hkd with rfl | rfl
          all_goals
            go_wp2_with (go_at_call 32; refine (HC.out _).mono ?_; rintro e w1 ⟨rfl, hb1⟩)
            refine bodyPost_ret (v := .tuple #[.slice none 0 0, .int .i64 15]) (by simp [results, Try.results15, go_sem]) rfl ⟨.slice none 0 0, by rw [HBIG.out], by rw [HBIG.out]; exact PairsAt.nil _, hbel.trans (hb1.mono hbel.size)⟩
        · rcases hkd with rfl | rfl
          all_goals
            go_wp2_with (go_at_call 32; refine (HC.out _).mono ?_; rintro e w1 ⟨rfl, hb1⟩; clear p1 p2)
            go_roundw
            case rel => exact ⟨k + 1, z + c, by omega, by go_num, rfl, HS.out, by omega, hbel.trans (hb1.mono hbel.size)⟩
            case measure => simp [intOf]; omega
      · have e1' : x1 ≠ 1 := by simpa using e1
        have e2' : x1 ≠ 2 := by simpa using e2
        rw [if_neg (by omega), Int.add_zero] at hsucc
        have HS := Lib.hid hsucc
        have hzm' : ¬ 10000 < z := by omega
        clear hsucc
        go_wp2
        go_roundw
        case rel => exact ⟨k + 1, z, by omega, by go_num, rfl, HS.out, by omega, hbel⟩
        case measure => simp [intOf]; omega
    · have hall : stps l ≤ 10000 := by
        have h := HZ.out
        rw [List.take_of_length_le (by omega)] at h
        omega
      have htrc : trc l = ((0, 0) :: tpts l (0, 0, 0), 0) := by unfold trc; rw [if_neg (by omega)]
      have HT := Lib.hid htrc
      clear htrc HZ hzm z0
      have hsz := hbel.size
      have O1 := (own_one wr w.heap.size hsz 34 0 0).alloc (.cells #[.int .i64 0, .int .i64 0] 34)
      have H1 : ((wr.alloc (.cells #[.int .i64 0, .int .i64 0] 34)).alloc (.cells #[.int .i64 0, .int .i64 0] 34)).heap[wr.heap.size + 1]? = some (.cells #[.int .i64 0, .int .i64 0] 34) := by
        have h := heap_alloc_new (wr.alloc (.cells #[.int .i64 0, .int .i64 0] 34)) (.cells #[.int .i64 0, .int .i64 0] 34)
        simpa using h
      have hB1 := (hbel.alloc hsz (.cells #[.int .i64 0, .int .i64 0] 34)).alloc (by simp; omega) (.cells #[.int .i64 0, .int .i64 0] 34)
      clear hbel
      go_wp2
      generalize hbk : wr.heap.size + 1 = bk at *
      have hbw : w.heap.size ≤ bk := by omega
      have hne0 : (Value.slice (some ⟨wr.heap.size, 0, none⟩) 1 1).ownBlock ≠ some bk := by simp [Value.ownBlock]; omega
      clear hbk
      go_loopw [6, 8, 9, 10, 11] (fun v t i _ _ wq => ∃ (k' : Nat) (T X Y : Int), k' ≤ l.length ∧ i = .int .i64 k' ∧ t = .int .i64 T ∧ eend (l.take k') = (T, X, Y) ∧ OwnP wq w.heap.size 34 v ((0, 0) :: tpts (l.take k') (0, 0, 0)) ∧ Below w.heap.size w wq ∧ wq.heap[bk]? = some (.cells #[.int .i64 X, .int .i64 Y] 34) ∧ v.ownBlock ≠ some (bk)) (fun _ _ i _ _ _ => l.length - (intOf i).toNat)
      case atStart => exact ⟨0, 0, 0, 0, Nat.zero_le _, rfl, rfl, rfl, O1, hB1, H1, hne0⟩
      case round =>
        clear O1 H1 hB1
        obtain ⟨k', T, X, Y, hk', rfl, rfl, hs, hown, hB, hH, hne⟩ := hrel
        obtain ⟨⟨t0, t3⟩, bX, bY⟩ := eend_bd l k'
        rw [hs] at t0 t3 bX bY
        simp only at t0 t3 bX bY
        have bX' : X.natAbs ≤ 300 * 1048576 := Nat.le_trans bX (Nat.mul_le_mul_right _ (by omega))
        have bY' : Y.natAbs ≤ 300 * 1048576 := Nat.le_trans bY (Nat.mul_le_mul_right _ (by omega))
        have htl : (tpts (l.take k') (0, 0, 0)).length ≤ 10000 := by have h1 := tpts_length (l.take k') (0, 0, 0); have h2 := stps_take l k'; omega
        by_cases hlt' : k' < l.length
        · have hsucc := eend_succ l k' hlt'
          have tsucc := tpts_succ l k' hlt'
          obtain ⟨ga, oa, rfl, hga, hxa⟩ := ha (by omega)
          obtain ⟨⟨x1, x2⟩, hx⟩ : ∃ x, l[k']'hlt' = x := ⟨_, rfl⟩
          have hx0 := hxa k' _ (List.getElem?_eq_getElem hlt')
          rw [hx] at hx0 hsucc tsucc
          rw [hs] at hsucc tsucc
          have p1 := (hB.cell (p := ⟨ga, oa + k' * 2, none⟩) hga).trans hx0.1
          have p2 := (hB.cell (p := ⟨ga, oa + k' * 2 + 1, none⟩) hga).trans hx0.2
          simp only at p1 p2
          have hP := fun w2 (hb2 : Below w.heap.size w w2) => (hb2.cell (p := ⟨ga, oa + k' * 2, none⟩) hga).trans hx0.1
          simp only at hP
          have HP := Lib.hid hP
          clear hP
          have hc := fun w => refCount_any x1 x2 w
          obtain ⟨cb0, cb1⟩ := cnt_bd (x1, x2)
          have hm : ∀ c : Int, 0 ≤ c → c ≤ 1048576 → Int.tmod (T + c) 4 = (T + c) % 4 ∧ Int.tmod (T + 3 * c) 4 = (T + 3 * c) % 4 := fun c h1 h2 => ⟨Int.tmod_eq_emod_of_nonneg (by omega), Int.tmod_eq_emod_of_nonneg (by omega)⟩
          unfold estep at hsucc
          unfold tadd at tsucc
          simp only at hsucc tsucc
          clear hx0 hx hs bX bY
          have hkind : x1 = 1 ∨ x1 = 2 ∨ x1 = 3 ∨ x1 = 4 ∨ (x1 ≠ 1 ∧ x1 ≠ 2 ∧ x1 ≠ 3 ∧ x1 ≠ 4) := by omega
          rcases hkind with rfl | rfl | rfl | rfl | ⟨n1, n2, n3, n4⟩
          · rw [if_pos rfl] at hsucc tsucc
            have hcc : ((cnt (1, x2)).toNat : Int) = cnt (1, x2) := Int.toNat_of_nonneg cb0
            have hcm : (cnt (1, x2)).toNat ≤ 1048576 := by omega
            have huv := unit_abs (T % 4).toNat
            have hst := fun X Y w h1 h2 => refStep_any X Y T (1) w h1 h2 (by decide)
            generalize uq (T % 4).toNat = u at *
            generalize vq (T % 4).toNat = v at *
            generalize (cnt (1, x2)).toNat = cn at *
            generalize cnt (1, x2) = c at *
            have hu : (u).natAbs ≤ 1 := by omega
            have hv : (v).natAbs ≤ 1 := by omega
            have HST := Lib.hid hst
            have HS := Lib.hid hsucc
            have TS := Lib.hid tsucc
            have HC := Lib.hid hc
            have HOWN := Lib.hid hown
            have HX := Lib.hid bX'
            have HY := Lib.hid bY'
            clear hsucc tsucc hc bX' bY' hm hown huv hst
            go_wp2_with (go_at_call 32; refine (HC.out _).mono ?_; rintro e w1 ⟨rfl, hb⟩; replace hB := hB.trans (hb.mono hB.size); replace p1 := (hb.cell (World.block_lt_of_cell? _ _ p1)).trans p1; replace p2 := (hb.cell (World.block_lt_of_cell? _ _ p2)).trans p2)
            go_loopw [6, 11] (fun o i w2 => ∃ (j : Nat) (X' Y' : Int), j ≤ cn ∧ i = .int .i64 j ∧ X' = X + j * u ∧ Y' = Y + j * v ∧ OwnP w2 w.heap.size 34 o (((0, 0) :: tpts (l.take k') (0, 0, 0)) ++ tline X Y (u) (v) j) ∧ Below w.heap.size w w2 ∧ w2.heap[bk]? = some (.cells #[.int .i64 X', .int .i64 Y'] 34) ∧ o.ownBlock ≠ some (bk)) (fun _ i _ => cn - (intOf i).toNat)
            case atStart => exact ⟨0, X, Y, Nat.zero_le _, rfl, by simp, by simp, by simpa [tline] using HOWN.out.kept hb, hB, (hb.block _ (lt_of_block hH)).trans hH, hne⟩
            case round =>
              clear hB hH hne
              obtain ⟨j, X', Y', hj, rfl, hX', hY', hown', hB, hH, hne⟩ := hrel
              by_cases hltj : j < cn
              · have hjc : (j : Int) < c := by omega
                have bX2 : X'.natAbs ≤ 1000000000000 := by rw [hX']; exact lin_bd HX.out (by omega) hu
                have bY2 : Y'.natAbs ≤ 1000000000000 := by rw [hY']; exact lin_bd HY.out (by omega) hv
                have h1 := fun w => HST.out X' Y' w bX2 bY2
                have q1 := HP.out _ hB
                have C1 : Cell2 wr bk (.int .i64 X') (.int .i64 Y') := Cell2.of_heap hH
                have lX : X' + 1 * u = X + ((j + 1 : Nat) : Int) * u := by rw [hX']; exact lin_on X u j
                have lY : Y' + 1 * v = Y + ((j + 1 : Nat) : Int) * v := by rw [hY']; exact lin_on Y v j
                have htn : ((0, 0) :: tpts (l.take k') (0, 0, 0) ++ tline X Y (u) (v) j).length ≤ 2000000 := by simp [tline_length]; omega
                have hsc : (0, 0) :: tpts (l.take k') (0, 0, 0) ++ tline X Y (u) (v) (j + 1) = ((0, 0) :: tpts (l.take k') (0, 0, 0) ++ tline X Y (u) (v) j) ++ [(X' + 1 * u, Y' + 1 * v)] := by
                  rw [lX, lY]; simp [tline]
                have hl1 : 1 ≤ ((0, 0) :: tpts (l.take k') (0, 0, 0) ++ tline X Y (u) (v) j).length := by simp
                generalize ((0, 0) :: tpts (l.take k') (0, 0, 0) ++ tline X Y (u) (v) j) = L at *
                generalize X' + 1 * u = X2 at *
                generalize Y' + 1 * v = Y2 at *
                have H1 := Lib.hid h1
                have HX2 := Lib.hid lX
                have HY2 := Lib.hid lY
                have HSC := Lib.hid hsc
                have HO := Lib.hid hown'
                clear h1 lX lY hsc bX2 bY2 hX' hY' hown'
                go_wp2
                refine wp_region_calmT 10 (by kernel_rfl) (by simp) (by kernel_rfl) fun M => ?_
                simp only [List.take_succ_cons, List.take_zero, List.drop_succ_cons, List.drop_zero]
                have e1 := fun n : In M.w => n.cell (M.cell q1)
                have e2 := fun n : In M.w => n.cell (M.cell C1.c0)
                have e3 := fun n : In M.w => n.cell (M.cell C1.c1)
                repeat (go_big_quiet_step ((go_at_call 39; exact In.call (H1.out _))))
                refine wpQuiet_nil ?_
                intro w2 hb2
                replace hB := hB.trans (hb2.mono hB.size)
                have hH2 := heap2_set ((hb2.block _ (lt_of_block hH)).trans hH) (.int .i64 X2) (.int .i64 Y2)
                have HO2 := Lib.hid (((HO.out.kept hb2).away ⟨bk, 0, none⟩ (.int .i64 X2) hne).away ⟨bk, 1, none⟩ (.int .i64 Y2) hne)
                replace hB := (hB.setCell (p := ⟨bk, 0, none⟩) hbw (.int .i64 X2)).setCell (p := ⟨bk, 1, none⟩) hbw (.int .i64 Y2)
                obtain ⟨c0', c1', z0, z1⟩ := C1.kept hb2
                obtain ⟨g0, g1, _, _⟩ := Cell2.of_heap hH2
                clear hb2 e1 e2 e3 M HO C1 hH q1
                have hsz2 := hB.size
                go_wp2_with (at_builtin; refine wpList_append_own _ rfl _ _ 30 rfl w.heap.size 34 i0 (.agg #[.int .i64 0, .int .i64 0]) 2 16 Try.underlying30 hi hz0 hz1 hz2 rfl (by decide) _ _ _ rfl (HO2.out.alloc _) ⟨_, 0, none⟩ 1 1 [.int .i64 X2, .int .i64 Y2] rfl rfl ?_ (by intro u hu; simp at hu; rcases hu with rfl | rfl <;> rfl) (by unfold maxLen; omega) (by omega) (by simp at hsz2 ⊢; omega) ?_)
                · exact cells_new _ _ (by simp [World.setCell]) _ _ _
                intro v' w1 hown1 hgrow1 _
                have hF := own_fin HO2.out (hB.alloc hsz2 _) (hB.alloc hsz2 _).size hown1 hgrow1 hH2 hne hl1
                rw [← HSC.out] at hF
                clear hown1 hgrow1 c0' c1' z0 z1 g0 g1
                have HF := Lib.hid hF
                clear hF
                go_wp2
                go_roundw
                case rel => exact ⟨j + 1, X2, Y2, by omega, by go_num, HX2.out, HY2.out, HF.out.1, HF.out.2.1, HF.out.2.2.1, HF.out.2.2.2⟩
                case measure => simp [intOf]; omega
              · have hjc : ¬ (j : Int) < c := by omega
                have hjn : j = cn := by omega
                subst hjn
                have hXe : X' = X + c * u := by rw [hX', hcc]
                have hYe : Y' = Y + c * v := by rw [hY', hcc]
                rw [← hXe, ← hYe] at HS
                have e : (0, 0) :: tpts (l.take k') (0, 0, 0) ++ tline X Y u v j = (0, 0) :: tpts (l.take (k' + 1)) (0, 0, 0) := by rw [TS.out]; rfl
                rw [e] at hown'
                have HO := Lib.hid hown'
                clear hXe hYe hX' hY' e hown'
                go_wp2
                go_roundw
                case rel => exact ⟨k' + 1, T, X', Y', by omega, by go_num, rfl, HS.out, HO.out, hB, hH, hne⟩
                case measure => simp [intOf]; omega
          · rw [if_neg (by decide), if_pos rfl] at hsucc tsucc
            have hcc : ((cnt (2, x2)).toNat : Int) = cnt (2, x2) := Int.toNat_of_nonneg cb0
            have hcm : (cnt (2, x2)).toNat ≤ 1048576 := by omega
            have huv := unit_abs (T % 4).toNat
            have hst := fun X Y w h1 h2 => refStep_any X Y T (-1) w h1 h2 (by decide)
            generalize uq (T % 4).toNat = u at *
            generalize vq (T % 4).toNat = v at *
            generalize (cnt (2, x2)).toNat = cn at *
            generalize cnt (2, x2) = c at *
            have hu : (-u).natAbs ≤ 1 := by omega
            have hv : (-v).natAbs ≤ 1 := by omega
            have HST := Lib.hid hst
            have HS := Lib.hid hsucc
            have TS := Lib.hid tsucc
            have HC := Lib.hid hc
            have HOWN := Lib.hid hown
            have HX := Lib.hid bX'
            have HY := Lib.hid bY'
            clear hsucc tsucc hc bX' bY' hm hown huv hst
            go_wp2_with (go_at_call 32; refine (HC.out _).mono ?_; rintro e w1 ⟨rfl, hb⟩; replace hB := hB.trans (hb.mono hB.size); replace p1 := (hb.cell (World.block_lt_of_cell? _ _ p1)).trans p1; replace p2 := (hb.cell (World.block_lt_of_cell? _ _ p2)).trans p2)
            go_loopw [6, 11] (fun o i w2 => ∃ (j : Nat) (X' Y' : Int), j ≤ cn ∧ i = .int .i64 j ∧ X' = X + j * -u ∧ Y' = Y + j * -v ∧ OwnP w2 w.heap.size 34 o (((0, 0) :: tpts (l.take k') (0, 0, 0)) ++ tline X Y (-u) (-v) j) ∧ Below w.heap.size w w2 ∧ w2.heap[bk]? = some (.cells #[.int .i64 X', .int .i64 Y'] 34) ∧ o.ownBlock ≠ some (bk)) (fun _ i _ => cn - (intOf i).toNat)
            case atStart => exact ⟨0, X, Y, Nat.zero_le _, rfl, by simp, by simp, by simpa [tline] using HOWN.out.kept hb, hB, (hb.block _ (lt_of_block hH)).trans hH, hne⟩
            case round =>
              clear hB hH hne
              obtain ⟨j, X', Y', hj, rfl, hX', hY', hown', hB, hH, hne⟩ := hrel
              by_cases hltj : j < cn
              · have hjc : (j : Int) < c := by omega
                have bX2 : X'.natAbs ≤ 1000000000000 := by rw [hX']; exact lin_bd HX.out (by omega) hu
                have bY2 : Y'.natAbs ≤ 1000000000000 := by rw [hY']; exact lin_bd HY.out (by omega) hv
                have h1 := fun w => HST.out X' Y' w bX2 bY2
                have q1 := HP.out _ hB
                have C1 : Cell2 wr bk (.int .i64 X') (.int .i64 Y') := Cell2.of_heap hH
                have lX : X' + -1 * u = X + ((j + 1 : Nat) : Int) * -u := by rw [hX']; exact lin_back X u j
                have lY : Y' + -1 * v = Y + ((j + 1 : Nat) : Int) * -v := by rw [hY']; exact lin_back Y v j
                have htn : ((0, 0) :: tpts (l.take k') (0, 0, 0) ++ tline X Y (-u) (-v) j).length ≤ 2000000 := by simp [tline_length]; omega
                have hsc : (0, 0) :: tpts (l.take k') (0, 0, 0) ++ tline X Y (-u) (-v) (j + 1) = ((0, 0) :: tpts (l.take k') (0, 0, 0) ++ tline X Y (-u) (-v) j) ++ [(X' + -1 * u, Y' + -1 * v)] := by
                  rw [lX, lY]; simp [tline]
                have hl1 : 1 ≤ ((0, 0) :: tpts (l.take k') (0, 0, 0) ++ tline X Y (-u) (-v) j).length := by simp
                generalize ((0, 0) :: tpts (l.take k') (0, 0, 0) ++ tline X Y (-u) (-v) j) = L at *
                generalize X' + -1 * u = X2 at *
                generalize Y' + -1 * v = Y2 at *
                have H1 := Lib.hid h1
                have HX2 := Lib.hid lX
                have HY2 := Lib.hid lY
                have HSC := Lib.hid hsc
                have HO := Lib.hid hown'
                clear h1 lX lY hsc bX2 bY2 hX' hY' hown'
                go_wp2
                refine wp_region_calmT 10 (by kernel_rfl) (by simp) (by kernel_rfl) fun M => ?_
                simp only [List.take_succ_cons, List.take_zero, List.drop_succ_cons, List.drop_zero]
                have e1 := fun n : In M.w => n.cell (M.cell q1)
                have e2 := fun n : In M.w => n.cell (M.cell C1.c0)
                have e3 := fun n : In M.w => n.cell (M.cell C1.c1)
                repeat (go_big_quiet_step ((go_at_call 39; exact In.call (H1.out _))))
                refine wpQuiet_nil ?_
                intro w2 hb2
                replace hB := hB.trans (hb2.mono hB.size)
                have hH2 := heap2_set ((hb2.block _ (lt_of_block hH)).trans hH) (.int .i64 X2) (.int .i64 Y2)
                have HO2 := Lib.hid (((HO.out.kept hb2).away ⟨bk, 0, none⟩ (.int .i64 X2) hne).away ⟨bk, 1, none⟩ (.int .i64 Y2) hne)
                replace hB := (hB.setCell (p := ⟨bk, 0, none⟩) hbw (.int .i64 X2)).setCell (p := ⟨bk, 1, none⟩) hbw (.int .i64 Y2)
                obtain ⟨c0', c1', z0, z1⟩ := C1.kept hb2
                obtain ⟨g0, g1, _, _⟩ := Cell2.of_heap hH2
                clear hb2 e1 e2 e3 M HO C1 hH q1
                have hsz2 := hB.size
                go_wp2_with (at_builtin; refine wpList_append_own _ rfl _ _ 30 rfl w.heap.size 34 i0 (.agg #[.int .i64 0, .int .i64 0]) 2 16 Try.underlying30 hi hz0 hz1 hz2 rfl (by decide) _ _ _ rfl (HO2.out.alloc _) ⟨_, 0, none⟩ 1 1 [.int .i64 X2, .int .i64 Y2] rfl rfl ?_ (by intro u hu; simp at hu; rcases hu with rfl | rfl <;> rfl) (by unfold maxLen; omega) (by omega) (by simp at hsz2 ⊢; omega) ?_)
                · exact cells_new _ _ (by simp [World.setCell]) _ _ _
                intro v' w1 hown1 hgrow1 _
                have hF := own_fin HO2.out (hB.alloc hsz2 _) (hB.alloc hsz2 _).size hown1 hgrow1 hH2 hne hl1
                rw [← HSC.out] at hF
                clear hown1 hgrow1 c0' c1' z0 z1 g0 g1
                have HF := Lib.hid hF
                clear hF
                go_wp2
                go_roundw
                case rel => exact ⟨j + 1, X2, Y2, by omega, by go_num, HX2.out, HY2.out, HF.out.1, HF.out.2.1, HF.out.2.2.1, HF.out.2.2.2⟩
                case measure => simp [intOf]; omega
              · have hjc : ¬ (j : Int) < c := by omega
                have hjn : j = cn := by omega
                subst hjn
                have hXe : X' = X + -c * u := by rw [hX', hcc, Int.mul_neg, Int.neg_mul]
                have hYe : Y' = Y + -c * v := by rw [hY', hcc, Int.mul_neg, Int.neg_mul]
                rw [← hXe, ← hYe] at HS
                have e : (0, 0) :: tpts (l.take k') (0, 0, 0) ++ tline X Y (-u) (-v) j = (0, 0) :: tpts (l.take (k' + 1)) (0, 0, 0) := by rw [TS.out]; rfl
                rw [e] at hown'
                have HO := Lib.hid hown'
                clear hXe hYe hX' hY' e hown'
                go_wp2
                go_roundw
                case rel => exact ⟨k' + 1, T, X', Y', by omega, by go_num, rfl, HS.out, HO.out, hB, hH, hne⟩
                case measure => simp [intOf]; omega
          · rw [if_neg (by decide), if_neg (by decide), if_pos rfl] at hsucc
            rw [if_neg (by decide), if_neg (by decide), List.append_nil] at tsucc
            rw [← tsucc] at hown
            have HM := (hm (cnt (3, x2)) cb0 cb1).1
            generalize cnt (3, x2) = c at *
            have HS := Lib.hid hsucc
            have HC := Lib.hid hc
            have HOWN := Lib.hid hown
            clear hsucc tsucc hc bX' bY' hm hown
            go_wp2_with (go_at_call 32; refine (HC.out _).mono ?_; rintro e w1 ⟨rfl, hb⟩; replace hB := hB.trans (hb.mono hB.size); replace p1 := (hb.cell (World.block_lt_of_cell? _ _ p1)).trans p1; replace p2 := (hb.cell (World.block_lt_of_cell? _ _ p2)).trans p2)
            go_roundw
            case rel => exact ⟨k' + 1, (T + c) % 4, X, Y, by omega, by go_num, rfl, HS.out, HOWN.out.kept hb, hB, (hb.block _ (lt_of_block hH)).trans hH, hne⟩
            case measure => simp [intOf]; omega
          · rw [if_neg (by decide), if_neg (by decide), if_neg (by decide), if_pos rfl] at hsucc
            rw [if_neg (by decide), if_neg (by decide), List.append_nil] at tsucc
            rw [← tsucc] at hown
            have HM := (hm (cnt (4, x2)) cb0 cb1).2
            generalize cnt (4, x2) = c at *
            have HS := Lib.hid hsucc
            have HC := Lib.hid hc
            have HOWN := Lib.hid hown
            clear hsucc tsucc hc bX' bY' hm hown
            go_wp2_with (go_at_call 32; refine (HC.out _).mono ?_; rintro e w1 ⟨rfl, hb⟩; replace hB := hB.trans (hb.mono hB.size); replace p1 := (hb.cell (World.block_lt_of_cell? _ _ p1)).trans p1; replace p2 := (hb.cell (World.block_lt_of_cell? _ _ p2)).trans p2)
            go_roundw
            case rel => exact ⟨k' + 1, (T + 3 * c) % 4, X, Y, by omega, by go_num, rfl, HS.out, HOWN.out.kept hb, hB, (hb.block _ (lt_of_block hH)).trans hH, hne⟩
            case measure => simp [intOf]; omega
          · rw [if_neg n1, if_neg n2, if_neg n3, if_neg n4] at hsucc
            rw [if_neg n1, if_neg n2, List.append_nil] at tsucc
            rw [← tsucc] at hown
            have m1 := beq_no' n1
            have m2 := beq_no' n2
            have m3 := beq_no' n3
            have m4 := beq_no' n4
            generalize cnt (x1, x2) = c at *
            have HS := Lib.hid hsucc
            have HC := Lib.hid hc
            have HOWN := Lib.hid hown
            clear hsucc tsucc hc bX' bY' hm hown
            go_wp2_with (go_at_call 32; refine (HC.out _).mono ?_; rintro e w1 ⟨rfl, hb⟩; replace hB := hB.trans (hb.mono hB.size); replace p1 := (hb.cell (World.block_lt_of_cell? _ _ p1)).trans p1; replace p2 := (hb.cell (World.block_lt_of_cell? _ _ p2)).trans p2)
            go_roundw
            case rel => exact ⟨k' + 1, T, X, Y, by omega, by go_num, rfl, HS.out, HOWN.out.kept hb, hB, (hb.block _ (lt_of_block hH)).trans hH, hne⟩
            case measure => simp [intOf]; omega
        · go_wp2
          have e : l.take k' = l := List.take_of_length_le (by omega)
          rw [e] at hown
          refine bodyPost_ret (v := .tuple #[u6, .int .i64 0]) (by simp [results, Try.results15, go_sem]) rfl ⟨u6, by rw [HT.out], by rw [HT.out]; exact hown.pairs, hB⟩
end Go.Proofs.Ytibeljppjaenbaa
