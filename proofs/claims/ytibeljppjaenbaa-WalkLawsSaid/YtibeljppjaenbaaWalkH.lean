/- The walks of package walk: the points of a walk. -/
import Derived.Test.YtibeljppjaenbaaWalkC
import Derived.Test.YtibeljppjaenbaaWalkRefN
import Derived.Lib.SmallJoins
namespace Go.Proofs.Ytibeljppjaenbaa
open Go.RowKit
attribute [local go_sem] store_complex
attribute [local go_sem ↓] Go.wp_at_zero Go.wp_at_succ

theorem pln_steps (m : Int × Int) : max (pln m).1 (-(pln m).1) = if m.1 = 1 ∨ m.1 = 2 then cnt m else 0 := by
  have := cnt_bd m
  unfold pln
  split
  · rw [if_pos (by omega)]; simp only; omega
  · split
    · rw [if_pos (by omega)]; simp only; omega
    · rw [show (if m.1 = 1 ∨ m.1 = 2 then cnt m else 0) = 0 from if_neg (by omega)]
      split
      · rfl
      · split <;> rfl
theorem abs_bd {n : Int} (h : n.natAbs ≤ 1048576) : 0 ≤ max n (-n) ∧ max n (-n) ≤ 1048576 := by omega

section
theorem field_on (S Q : Int) (w : World) : (Instr.field 73 (.agg #[.int .i64 S, .int .i64 Q]) 0).run Try.prog w = .ok (.int .i64 S) w := by
  simp [Instr.field, run_underlying Try.underlying73, asAgg, go_sem]
attribute [local go_sem high] field_on
set_option maxHeartbeats 1000000 in
set_option maxRecDepth 100000 in
theorem wfew_any (va : Value) (l : List (Int × Int)) (w : World) (ha : PairsAt w va l) (hl : l.length ≤ 1000000) :
    Calls Try.prog 34 #[va] w fun e w' => e = .returned (.bool (decide (stps l ≤ 10000))) ∧ Below w.heap.size w w' := by
  obtain ⟨a, ca, rfl, hca, ha⟩ := ha
  go_enter Try.func34, Try.ntmps34
  go_wp2
  go_loopw [3, 5, 8] (fun z _ i wr => ∃ (k : Nat) (x : Int), k ≤ l.length ∧ i = .int .i64 k ∧ z = .int .i64 x ∧ x = stps (l.take k) ∧ x ≤ 10000 ∧ Below w.heap.size w wr) (fun _ _ i _ => l.length - (intOf i).toNat)
  case atStart => exact ⟨0, 0, Nat.zero_le _, rfl, rfl, by simp [stps], by decide, Below.refl _ _⟩
  case round =>
    obtain ⟨k, x, hk, rfl, rfl, hx0, hx1, hB⟩ := hrel
    have hxn : 0 ≤ x := by rw [hx0]; exact stps_nn _
    by_cases hlt : k < l.length
    · obtain ⟨ga, oa, rfl, hga, hxa⟩ := ha (by omega)
      have hsucc := stps_succ l k hlt
      obtain ⟨⟨x1, x2⟩, hx⟩ : ∃ x, l[k]'hlt = x := ⟨_, rfl⟩
      have hx0' := hxa k _ (List.getElem?_eq_getElem hlt)
      rw [hx] at hx0' hsucc
      rw [← pln_steps, ← hx0] at hsucc
      have p1 : wr.cell? ⟨ga, oa + k * 2, none⟩ = some (.int .i64 x1) := (hB.cell (p := ⟨ga, oa + k * 2, none⟩) hga).trans hx0'.1
      have p2 : wr.cell? ⟨ga, oa + k * 2 + 1, none⟩ = some (.int .i64 x2) := (hB.cell (p := ⟨ga, oa + k * 2 + 1, none⟩) hga).trans hx0'.2
      have hd := fun w => wdone_any x1 x2 w
      have hpa := pln_abs (x1, x2)
      have htk := stps_take l (k + 1)
      obtain ⟨⟨S, Q⟩, hpe⟩ : ∃ p, pln (x1, x2) = p := ⟨_, rfl⟩
      rw [hpe] at hd hpa hsucc
      simp only at hpa hsucc
      have hab := fun w => wabs_any S w (by omega)
      obtain ⟨n0, n1⟩ := abs_bd hpa
      generalize max S (-S) = N at *
      have HD := Lib.hid hd
      have HA := Lib.hid hab
      have HS := Lib.hid hsucc
      have HT := Lib.hid htk
      have hsz := hB.size
      have hB0 := hB.alloc hsz (.cells #[.int .i64 x1, .int .i64 x2] 48)
      clear hd hab hsucc hx hx0' hxa ha hpe htk hx0 hpa
      by_cases hbig : 10000 < x + N
      · have hfalse : decide (stps l ≤ 10000) = false := decide_eq_false (by have := HS.out; have := HT.out; omega)
        have HF := Lib.hid hfalse
        clear hfalse
        go_wp2_with (first
          | (go_at_call 41; refine (HD.out _).mono ?_; rintro e w1 ⟨rfl, hb⟩; replace hB0 := hB0.trans (hb.mono hB0.size); clear hb p1 p2)
          | (go_at_call 60; refine (HA.out _).mono ?_; rintro e w1 ⟨rfl, rfl⟩))
        go_ret
        exact ⟨ret_b HF.out.symm, hB0⟩
      · go_wp2_with (first
          | (go_at_call 41; refine (HD.out _).mono ?_; rintro e w1 ⟨rfl, hb⟩; replace hB0 := hB0.trans (hb.mono hB0.size); clear hb p1 p2)
          | (go_at_call 60; refine (HA.out _).mono ?_; rintro e w1 ⟨rfl, rfl⟩))
        go_roundw
        case rel => exact ⟨k + 1, x + N, by omega, by go_num, rfl, HS.out.symm, by omega, hB0⟩
        case measure => simp [intOf]; omega
    · rw [List.take_of_length_le (by omega)] at hx0
      have HX := Lib.hid hx0
      clear ha hx0
      go_wp2
      go_ret
      exact ⟨ret_b (decide_eq_true (by have := HX.out; omega)).symm, hB⟩

end
/-- the points gathered in a variable of their own -/
structure TrAt (w : World) (B b : Nat) (v : Value) (l : List (Int × Int)) : Prop where
  le : B ≤ b
  blk : w.heap[b]? = some (.cells #[v] 30)
  own : OwnP w B 34 v l
/-- whatever is no such block lies as it lay -/
structure Rest (B b : Nat) (v : Value) (w w' : World) : Prop where
  below : Below B w w'
  block : ∀ k, k < w.heap.size → k ≠ b → v.ownBlock ≠ some k → w'.heap[k]? = w.heap[k]?
theorem own_kind {w : World} {B : Nat} {e t : TypeId} {v : Value} {l : List (Int × Int)} {k : Nat} {c : Array Value} (h : OwnP w B e v l) (hk : w.heap[k]? = some (.cells c t)) (hne : e ≠ t) : v.ownBlock ≠ some k := by
  rcases h.2 with ⟨rfl, _⟩ | ⟨g, cap, cur, rfl, hg, hh, _⟩
  · simp [Value.ownBlock]
  · intro e
    simp [Value.ownBlock] at e
    subst e
    rw [hk] at hh
    cases hh
    exact hne rfl

theorem heap1_set {w : World} {b : Nat} {x : Value} {t : TypeId} (h : w.heap[b]? = some (.cells #[x] t)) (x' : Value) : (w.setCell ⟨b, 0, none⟩ x').heap[b]? = some (.cells #[x'] t) := by
  unfold World.setCell
  simp only [Array.getElem?_modify, if_pos, h, Option.map_some]
  rfl
theorem heap1_first {w : World} {b : Nat} {x y : Value} {t : TypeId} (h : w.heap[b]? = some (.cells #[x, y] t)) (x' : Value) : (w.setCell ⟨b, 0, none⟩ x').heap[b]? = some (.cells #[x', y] t) := by
  unfold World.setCell
  simp only [Array.getElem?_modify, if_pos, h, Option.map_some]
  rfl
theorem TrAt.kept {w w1 : World} {B b : Nat} {v : Value} {l : List (Int × Int)} (h : TrAt w B b v l) (hb : Below w.heap.size w w1) : TrAt w1 B b v l := ⟨h.le, (hb.block b (lt_of_block h.blk)).trans h.blk, h.own.kept hb⟩
theorem TrAt.away {w : World} {B b : Nat} {v : Value} {l : List (Int × Int)} (h : TrAt w B b v l) {k : Nat} (o : Nat) (u : Value) (hk : k ≠ b) {c : Array Value} {t : TypeId} (hh : w.heap[k]? = some (.cells c t)) (hne : 34 ≠ t) : TrAt (w.setCell ⟨k, o, none⟩ u) B b v l := by
  refine ⟨h.le, ?_, h.own.away _ _ (own_kind h.own hh hne)⟩
  rw [Below.heap_setCell w ⟨k, o, none⟩ u b (fun e => hk e.symm)]
  exact h.blk
theorem set_keep {w : World} {k j : Nat} {o : Obj} (h : w.heap[k]? = some o) (i : Nat) (u : Value) (hne : k ≠ j) : (w.setCell ⟨j, i, none⟩ u).heap[k]? = some o := by
  rw [Below.heap_setCell w ⟨j, i, none⟩ u k hne]
  exact h
theorem block_keep {w w1 : World} {k : Nat} {o : Obj} (h : w.heap[k]? = some o) (hb : Below w.heap.size w w1) : w1.heap[k]? = some o := (hb.block k (lt_of_block h)).trans h
theorem Rest.keep {B b k : Nat} {v : Value} {w w1 : World} {c : Array Value} {t : TypeId} {l : List (Int × Int)} (r : Rest B b v w w1) (h : w.heap[k]? = some (.cells c t)) (hk : k ≠ b) (ho : OwnP w B 34 v l) (hne : 34 ≠ t) : w1.heap[k]? = some (.cells c t) :=
  (r.block k (lt_of_block h) hk (own_kind ho h hne)).trans h

set_option maxHeartbeats 2000000 in
set_option maxRecDepth 100000 in
theorem wtell_any (B b p q : Nat) (x y : Int) (v : Value) (l : List (Int × Int)) (w : World) (h : TrAt w B b v l) (hB : B ≤ w.heap.size) (hl : l.length ≤ 1000000000) (hp : Fl p x) (hq : Fl q y) (hx : x.natAbs < 2 ^ 53) (hy : y.natAbs < 2 ^ 53) :
    Calls Try.prog 38 #[.complex .f64 p q, .pointer (some ⟨b, 0, none⟩)] w fun e w' => e = .returned (.tuple #[]) ∧ ∃ v', TrAt w' B b v' (l ++ [(x, y)]) ∧ Rest B b v w w' := by
  obtain ⟨i0, hi, hz0, hz1, hz2⟩ := info_parts info_point
  have hpt := fun w => wpoint_any p q x y hp hq hx hy w
  have HP := Lib.hid hpt
  clear hpt hp hq hx hy
  have c0 : w.cell? ⟨b, 0, none⟩ = some v := by simp [World.cell?, h.blk]
  have hblt : b < w.heap.size := lt_of_block h.blk
  have H := Lib.hid h
  clear h
  go_enter Try.func38, Try.ntmps38
  go_wp2
  refine wp_region_calmN 3 4 [(.cells #[.int .i64 x, .int .i64 y] 34, fun b => .slice (some ⟨b, 0, none⟩) 1 1)] (by kernel_rfl) (by simp) (by simp) (by kernel_rfl) fun M => ?_
  simp only [List.take_succ_cons, List.take_zero, List.drop_succ_cons, List.drop_zero, List.length_cons, List.length_nil, List.take_nil]
  have e1 := fun n : In M.w => n.cell (M.cell c0)
  repeat (go_big_quiet_step ((go_at_call 35; with_reducible exact In.call (HP.out _))))
  refine wpQuiet_nil ?_
  clear e1 M c0
  refine ⟨rfl, fun n => by simp [go_sem], fun bp hbp _ w2 hw => ?_⟩
  have hb2 := hw.below
  have hH := hw.own bp _ (Gh.set_self _ _ _)
  have ho2 := H.out.own.kept hb2
  have hk2 : w2.heap[b]? = some (.cells #[v] 30) := (hb2.block b hblt).trans H.out.blk
  have hsz2 := Nat.le_trans hB hb2.size
  clear hw
  go_wp2_with (at_builtin; refine wpList_append_own _ rfl _ _ 30 rfl B 34 i0 (.agg #[.int .i64 0, .int .i64 0]) 2 16 Try.underlying30 hi hz0 hz1 hz2 rfl (by decide) _ _ _ rfl ho2 ⟨bp, 0, none⟩ 1 1 [.int .i64 x, .int .i64 y] rfl rfl (World.news_of_block (cs := #[.int .i64 x, .int .i64 y]) hH) (by intro u hu; simp at hu; rcases hu with rfl | rfl <;> rfl) (by unfold maxLen; omega) (by omega) hsz2 ?_)
  intro v' w3 h1 h2 _
  have hne : v.ownBlock ≠ some b := own_kind H.out.own H.out.blk (by decide)
  have hk3 : w3.heap[b]? = some (.cells #[v] 30) := ho2.keeps h2 hk2 hne
  have o3 : OwnP w3 B 34 v' (l ++ [(x, y)]) := by
    unfold OwnP
    rw [List.length_append, flat_append]
    exact h1
  have hbl3 : Below B w w3 := H.out.own.below (hb2.mono hB) hsz2 h2
  have hblk : ∀ k, k < w.heap.size → k ≠ b → v.ownBlock ≠ some k → w3.heap[k]? = w.heap[k]? := fun k h3 _ h5 => (h2.block k (Nat.lt_of_lt_of_le h3 hb2.size) (fun e => h5 e.symm)).trans (hb2.block k h3)
  have d0 : w3.cell? ⟨b, 0, none⟩ = some v := by simp [World.cell?, hk3]
  have f0 : w3.frozen? ⟨b, 0, none⟩ = false := by simp [World.frozen?, hk3]
  obtain ⟨g', cap', rfl⟩ := Go.Joins.ownsRow_form h1 (by omega)
  have HH := Lib.hid hk3
  have HO3 := Lib.hid o3
  have HB3 := Lib.hid hbl3
  have HK3 := Lib.hid hblk
  clear h1 h2 ho2 hk2 hH hk3 o3 hbl3 hblk hb2 hne
  go_wp2
  go_end0
  refine ⟨rfl, _, ⟨H.out.le, heap1_set HH.out _, HO3.out.away _ _ (own_kind HO3.out HH.out (by decide))⟩, ⟨HB3.out.setCell H.out.le _, fun k h3 h4 h5 => ?_⟩⟩
  rw [Below.heap_setCell w3 ⟨b, 0, none⟩ _ k h4]
  exact HK3.out k h3 h4 h5

theorem one_mul' (n : Int) : 1 * n = n := by omega
theorem tdiv_up {n : Int} (h : 0 < n) : n.tdiv n = 1 := Int.tdiv_self (by omega)
theorem tdiv_dn {n : Int} (h : 0 < n) : (-n).tdiv n = -1 := by rw [Int.neg_tdiv, Int.tdiv_self (by omega)]
/-- a move that goes, step by step -/
theorem step_line {T X Y : Int} {m : Int × Int} (hT : 0 ≤ T ∧ T ≤ 3) (h : (pln m).1 ≠ 0) : ∃ (σ : Int) (N : Nat), (σ = 1 ∨ σ = -1) ∧ max (pln m).1 (-(pln m).1) = N ∧ N ≤ 1048576 ∧ 0 < N ∧ (pln m).1.tdiv N = σ ∧
    tadd (T, X, Y) m = tline X Y (σ * uq (T % 4).toNat) (σ * vq (T % 4).toNat) N ∧ estep (T, X, Y) m = (T, X + N * (σ * uq (T % 4).toNat), Y + N * (σ * vq (T % 4).toNat)) := by
  have hc := cnt_bd m
  have he := estep_pln T X Y m hT
  unfold pln at h
  by_cases h1 : m.1 = 1
  · rw [if_pos h1] at h
    simp only at h
    have hp : pln m = (cnt m, 0) := by unfold pln; rw [if_pos h1]
    rw [hp] at he ⊢
    obtain ⟨N, hN⟩ : ∃ N : Nat, cnt m = N := ⟨(cnt m).toNat, by omega⟩
    simp only [hN] at he h hc ⊢
    refine ⟨1, N, .inl rfl, by omega, by omega, by omega, tdiv_up (by omega), ?_, ?_⟩
    · unfold tadd
      rw [if_pos h1, hN]
      simp only [Int.one_mul]
      rw [show ((N : Nat) : Int).toNat = N by omega]
    · rw [he, Int.one_mul, Int.one_mul, show (T + 0) % 4 = T by omega]
  · rw [if_neg h1] at h
    by_cases h2 : m.1 = 2
    · rw [if_pos h2] at h
      simp only at h
      have hp : pln m = (-cnt m, 0) := by unfold pln; rw [if_neg h1, if_pos h2]
      rw [hp] at he ⊢
      obtain ⟨N, hN⟩ : ∃ N : Nat, cnt m = N := ⟨(cnt m).toNat, by omega⟩
      simp only [hN] at he h hc ⊢
      refine ⟨-1, N, .inr rfl, by omega, by omega, by omega, tdiv_dn (by omega), ?_, ?_⟩
      · unfold tadd
        rw [if_neg h1, if_pos h2, hN]
        simp only [Int.neg_mul, Int.one_mul]
        rw [show ((N : Nat) : Int).toNat = N by omega]
      · rw [he, show (T + 0) % 4 = T by omega]
        simp only [Int.neg_mul, Int.one_mul, Int.mul_neg]
    · rw [if_neg h2] at h
      split at h
      · exact absurd rfl h
      · split at h
        · exact absurd rfl h
        · exact absurd rfl h
theorem tadd_none {s : Int × Int × Int} {m : Int × Int} (h : (pln m).1 = 0) : tadd s m = [] := by
  have hl := tadd_length s m
  rw [← pln_steps, h] at hl
  simp only [Int.neg_zero, Int.max_self] at hl
  exact List.eq_nil_of_length_eq_zero (by omega)
theorem sgn_bd {σ u : Int} (h : σ = 1 ∨ σ = -1) (hu : u.natAbs ≤ 1) : (σ * u).natAbs ≤ 1 := by
  rw [Int.natAbs_mul]
  rcases h with rfl | rfl
  · simpa using hu
  · simpa using hu
theorem line_bd {X dx : Int} {n N k : Nat} (hX : X.natAbs ≤ k * 1048576) (hk : k ≤ 300) (hn : n ≤ N) (hN : N ≤ 1048576) (hd : dx.natAbs ≤ 1) : (X + n * dx).natAbs ≤ 1000000000000 :=
  lin_bd (Nat.le_trans hX (Nat.mul_le_mul_right _ hk)) (Nat.le_trans hn hN) hd
theorem line_bd53 {X dx : Int} {n N k : Nat} (hX : X.natAbs ≤ k * 1048576) (hk : k ≤ 300) (hn : n < N) (hN : N ≤ 1048576) (hd : dx.natAbs ≤ 1) : (X + ((n : Int) + 1) * dx).natAbs < 2 ^ 53 := by
  have h := line_bd (n := n + 1) hX hk hn hN hd
  rw [Int.natCast_add] at h
  exact Nat.lt_of_le_of_lt h (by decide)
theorem lin_one (X u : Int) (n : Nat) : X + n * u + u = X + ((n : Int) + 1) * u := by rw [Int.add_mul]; omega
theorem Wk.at {v : Value} {q : Nat} {x y x' y' : Int} (h : Wk v q x y) (hx : x = x') (hy : y = y') : Wk v q x' y' := by rw [← hx, ← hy]; exact h

set_option maxHeartbeats 4000000 in
set_option maxRecDepth 100000 in
theorem weach_any (va : Value) (l : List (Int × Int)) (w0 w : World) (B b : Nat) (v0 : Value) (ha : PairsAt w0 va l) (hw0 : w0.heap.size ≤ B) (hB0 : Below B w0 w) (hB : B ≤ w.heap.size) (h : TrAt w B b v0 [(0, 0)]) (hl : l.length ≤ 300) :
    Calls Try.prog 37 #[va, .func (.func 38) #[] #[.pointer (some ⟨b, 0, none⟩)]] w fun e w' => e = .returned (.tuple #[]) ∧ ∃ v', TrAt w' B b v' ((0, 0) :: tpts l (0, 0, 0)) ∧ Below B w0 w' := by
  obtain ⟨a, ca, rfl, hca, ha⟩ := ha
  have hblt : b < w.heap.size := lt_of_block h.blk
  have H := Lib.hid h
  clear h
  go_enter Try.func37, Try.ntmps37
  go_wp2_with (go_at_call 36; refine (wfirst_any _).mono ?_; rintro e w1 ⟨rfl, hb⟩)
  have hsz1 := hb.size
  have hB1 := (hB0.trans (hb.mono hB)).alloc (Nat.le_trans hB hsz1) (.cells #[.complex .f64 0 0, .complex .f64 4607182418800017408 0] 66)
  have T1 := (H.out.kept hb).kept ((Below.refl _ w1).alloc (Nat.le_refl _) (.cells #[.complex .f64 0 0, .complex .f64 4607182418800017408 0] 66))
  have D1 := heap_alloc_new w1 (.cells #[.complex .f64 0 0, .complex .f64 4607182418800017408 0] 66)
  obtain ⟨bw, hbw⟩ : ∃ bw, w1.heap.size = bw := ⟨_, rfl⟩
  have hbw1 : b ≠ bw := by omega
  have hbw2 : B ≤ bw := by omega
  rw [hbw] at D1 ⊢
  have HT1 := Lib.hid T1
  have HD1 := Lib.hid D1
  clear hb T1 D1
  go_loopw [6, 7, 8, 9, 13] (fun _ _ _ _ i wr => ∃ (k : Nat) (T X Y : Int) (z1 z2 z3 z4 : Nat) (v : Value), k ≤ l.length ∧ i = .int .i64 k ∧ eend (l.take k) = (T, X, Y) ∧ Below B w0 wr ∧ TrAt wr B b v ((0, 0) :: tpts (l.take k) (0, 0, 0)) ∧ wr.heap[bw]? = some (.cells #[.complex .f64 z1 z2, .complex .f64 z3 z4] 66) ∧ Wk (.agg #[.complex .f64 z1 z2, .complex .f64 z3 z4]) (T % 4).toNat X Y) (fun _ _ _ _ i _ => l.length - (intOf i).toNat)
  case atStart => exact ⟨0, 0, 0, 0, _, _, _, _, _, Nat.zero_le _, rfl, rfl, hB1, HT1.out, HD1.out, wk_first⟩
  case round =>
    clear hB1 HT1 HD1 H hbw hsz1 hB0
    clear w1
    obtain ⟨k, T, X, Y, z1, z2, z3, z4, v, hk, rfl, hs, hB, hT, hD, hW⟩ := hrel
    obtain ⟨hTT, bX, bY⟩ := eend_bd l k
    rw [hs] at hTT bX bY
    simp only at hTT bX bY
    by_cases hlt : k < l.length
    · have hsucc := eend_succ l k hlt
      have htr := tpts_succ l k hlt
      have htl := tpts_length (l.take k) (0, 0, 0)
      have hsl := stps_le l k
      obtain ⟨ga, oa, rfl, hga, hxa⟩ := ha (by omega)
      obtain ⟨⟨x1, x2⟩, hx⟩ : ∃ x, l[k]'hlt = x := ⟨_, rfl⟩
      have hx0 := hxa k _ (List.getElem?_eq_getElem hlt)
      rw [hx] at hx0 hsucc htr
      rw [hs] at hsucc htr
      have p1 : wr.cell? ⟨ga, oa + k * 2, none⟩ = some (.int .i64 x1) := (hB.cell (p := ⟨ga, oa + k * 2, none⟩) (show ga < B by omega)).trans hx0.1
      have p2 : wr.cell? ⟨ga, oa + k * 2 + 1, none⟩ = some (.int .i64 x2) := (hB.cell (p := ⟨ga, oa + k * 2 + 1, none⟩) (show ga < B by omega)).trans hx0.2
      have hdo := fun w => wdone_any x1 x2 w
      have hlen1 : ((0, 0) :: tpts (l.take k) (0, 0, 0)).length ≤ 400000000 := by rw [List.length_cons]; omega
      have hbz : B ≤ wr.heap.size := Nat.le_of_lt (Nat.lt_of_le_of_lt hbw2 (lt_of_block hD))
      have hB2 := hB.alloc hbz (.cells #[.int .i64 x1, .int .i64 x2] 48)
      have HT2 := Lib.hid (hT.kept ((Below.refl _ wr).alloc (Nat.le_refl _) (.cells #[.int .i64 x1, .int .i64 x2] 48)))
      have HD2 := Lib.hid (block_keep hD ((Below.refl _ wr).alloc (Nat.le_refl _) (.cells #[.int .i64 x1, .int .i64 x2] 48)))
      by_cases hz : (pln (x1, x2)).1 = 0
      · obtain ⟨v', ⟨T', X', Y', hst, hW'⟩, hbe⟩ := wnext_any (x1, x2) hW hTT (by omega) (by omega)
        rw [hst] at hsucc
        obtain ⟨y1, y2, y3, y4, rfl, _⟩ := hW'.is
        rw [tadd_none hz, List.append_nil] at htr
        obtain ⟨⟨s, r⟩, hsr⟩ : ∃ p, pln (x1, x2) = p := ⟨_, rfl⟩
        rw [hsr] at hbe hdo hz
        simp only at hz
        subst hz
        have HS := Lib.hid hsucc
        have HDO := Lib.hid hdo
        have HBE := Lib.hid hbe
        have HTR := Lib.hid htr
        have hsz2 := hB2.size
        clear hx0 hxa ha hx hs bX bY hsucc hdo hbe hst hsr hTT hW htr htl hsl hT hD
        have hbz2 : B ≤ (wr.alloc (.cells #[.int .i64 x1, .int .i64 x2] 48)).heap.size := by simp; omega
        go_wp2_with (first
          | (go_at_call 41; refine (HDO.out _).mono ?_; rintro e w1 ⟨rfl, hb⟩; have hB3 := (hB2.trans (hb.mono hbz2)).alloc (Nat.le_trans hbz2 hb.size) (.cells #[.int .i64 0, .int .i64 r] 73); have HT3 := Lib.hid ((HT2.out.kept hb).kept ((Below.refl _ w1).alloc (Nat.le_refl _) (.cells #[.int .i64 0, .int .i64 r] 73))); have HD3 := Lib.hid (block_keep (block_keep HD2.out hb) ((Below.refl _ w1).alloc (Nat.le_refl _) (.cells #[.int .i64 0, .int .i64 r] 73))); have hbz3 : B ≤ (w1.alloc (.cells #[.int .i64 0, .int .i64 r] 73)).heap.size := Nat.le_trans (Nat.le_trans hbz2 hb.size) (by simp); obtain ⟨g0, g1, _, _⟩ := Cell2.of_heap HD3.out; clear hb p1 p2)
          | (go_at_call 40; refine (HBE.out _).mono ?_; rintro e w2 ⟨rfl, hb⟩; have hB4 := hB3.trans (hb.mono hbz3); have HT4 := Lib.hid (HT3.out.kept hb); have HD4 := Lib.hid (block_keep HD3.out hb); clear g0 g1; obtain ⟨g0, g1, y0', y1'⟩ := Cell2.of_heap HD4.out; clear hb))
        go_roundw
        case rel => exact ⟨k + 1, T', X', Y', y1, y2, y3, y4, v, by omega, by go_num, HS.out, (hB4.setCell hbw2 _).setCell hbw2 _, by rw [HTR.out]; exact (HT4.out.away 0 _ hbw1.symm HD4.out (by decide)).away 1 _ hbw1.symm (heap1_first HD4.out _) (by decide), heap2_set HD4.out _ _, hW'⟩
        case measure => simp [intOf]; omega
      · obtain ⟨σ, N, hσ, hN, hN1, hN0, hdiv, htad, hest⟩ := step_line hTT hz (X := X) (Y := Y)
        rw [hest] at hsucc
        rw [htad] at htr
        have hqd := unit_abs (T % 4).toNat
        have hk300 : k ≤ 300 := by omega
        have hdx1 := sgn_bd hσ hqd.1
        have hdy1 := sgn_bd hσ hqd.2
        have hσ1 : σ.natAbs ≤ 1048576 := by rcases hσ with rfl | rfl <;> decide
        have hbeh := fun (n : Nat) (hn : n ≤ N) (u : Value) (hu : Wk u (T % 4).toNat (X + n * (σ * uq (T % 4).toNat)) (Y + n * (σ * vq (T % 4).toNat))) => wbehind_any (r := 0) (s := σ) hu (by decide) (line_bd bX hk300 hn hN1 hdx1) (line_bd bY hk300 hn hN1 hdy1) hσ1
        generalize σ * uq (T % 4).toNat = dx at hsucc htr hbeh hdx1
        generalize σ * vq (T % 4).toNat = dy at hsucc htr hbeh hdy1
        have hbd : ∀ n : Nat, n < N → (X + ((n : Int) + 1) * dx).natAbs < 2 ^ 53 ∧ (Y + ((n : Int) + 1) * dy).natAbs < 2 ^ 53 := fun n hn => ⟨line_bd53 bX hk300 hn hN1 hdx1, line_bd53 bY hk300 hn hN1 hdy1⟩
        obtain ⟨⟨s, r⟩, hsr⟩ : ∃ p, pln (x1, x2) = p := ⟨_, rfl⟩
        have hs6 := (pln_abs (x1, x2))
        rw [hsr] at hdo hz hN hdiv hs6
        simp only at hz hN hdiv hs6
        have habs := fun w => wabs_any s w (by omega)
        rw [hN] at habs
        have hz' := beq_no' hz
        have hN' : ((N : Nat) : Int) ≠ 0 := by omega
        have HS := Lib.hid hsucc
        have HDO := Lib.hid hdo
        have HBE := Lib.hid hbeh
        have HTR := Lib.hid htr
        have HBD := Lib.hid hbd
        have HAB := Lib.hid habs
        have HW := Lib.hid hW
        have hsz2 := hB2.size
        clear hx0 hxa ha hx hs bX bY hsucc hdo hbeh hest hsr hTT hW htr htl hsl hT hD hbd habs htad hqd hdx1 hdy1 hz hN hs6 hσ1
        have hbz2 : B ≤ (wr.alloc (.cells #[.int .i64 x1, .int .i64 x2] 48)).heap.size := by simp; omega
        go_wp2_with (first
          | (go_at_call 41; refine (HDO.out _).mono ?_; rintro e w1 ⟨rfl, hb⟩; have hB3 := (hB2.trans (hb.mono hbz2)).alloc (Nat.le_trans hbz2 hb.size) (.cells #[.int .i64 s, .int .i64 r] 73); have HT3 := Lib.hid ((HT2.out.kept hb).kept ((Below.refl _ w1).alloc (Nat.le_refl _) (.cells #[.int .i64 s, .int .i64 r] 73))); have HD3 := Lib.hid (block_keep (block_keep HD2.out hb) ((Below.refl _ w1).alloc (Nat.le_refl _) (.cells #[.int .i64 s, .int .i64 r] 73))); have hbz3 : B ≤ (w1.alloc (.cells #[.int .i64 s, .int .i64 r] 73)).heap.size := Nat.le_trans (Nat.le_trans hbz2 hb.size) (by simp); clear hb p1 p2)
          | (go_at_call 60; refine (HAB.out _).mono ?_; rintro e w2 ⟨rfl, rfl⟩))
        obtain ⟨bo, hbo⟩ : ∃ bo, (w1.alloc (.cells #[.int .i64 s, .int .i64 r] 73)).heap.size = bo := ⟨_, rfl⟩
        have HO := Lib.hid (heap_alloc_new (w1.alloc (.cells #[.int .i64 s, .int .i64 r] 73)) (.cells #[.int .i64 σ, .int .i64 0] 73))
        have hB5 := hB3.alloc hbz3 (.cells #[.int .i64 σ, .int .i64 0] 73)
        have HT5 := Lib.hid (HT3.out.kept ((Below.refl _ (w1.alloc (.cells #[.int .i64 s, .int .i64 r] 73))).alloc (Nat.le_refl _) (.cells #[.int .i64 σ, .int .i64 0] 73)))
        have HD5 := Lib.hid (block_keep HD3.out ((Below.refl _ (w1.alloc (.cells #[.int .i64 s, .int .i64 r] 73))).alloc (Nat.le_refl _) (.cells #[.int .i64 σ, .int .i64 0] 73)))
        have hob1 : bo ≠ b := by have := lt_of_block HT3.out.blk; omega
        have hob2 : bo ≠ bw := by have := lt_of_block HD3.out; omega
        rw [hbo] at HO
        simp only [World.size_alloc] at hbo
        rw [hbo]
        go_loopw [34] (fun j wq => ∃ (n : Nat) (a1 a2 a3 a4 : Nat) (v : Value), n ≤ N ∧ j = .int .i64 n ∧ Below B w0 wq ∧ TrAt wq B b v (((0, 0) :: tpts (l.take k) (0, 0, 0)) ++ tline X Y dx dy n) ∧ wq.heap[bw]? = some (.cells #[.complex .f64 a1 a2, .complex .f64 a3 a4] 66) ∧ wq.heap[bo]? = some (.cells #[.int .i64 σ, .int .i64 0] 73) ∧ Wk (.agg #[.complex .f64 a1 a2, .complex .f64 a3 a4]) (T % 4).toNat (X + n * dx) (Y + n * dy)) (fun j _ => N - (intOf j).toNat)
        case atStart => exact ⟨0, _, _, _, _, _, Nat.zero_le _, rfl, hB5, by simpa [tline] using HT5.out, HD5.out, HO.out, HW.out.at (by simp) (by simp)⟩
        case round =>
          clear hB5 HT5 HD5 HO HW hbo HT3 HD3 hB3 hbz3 hB2 HT2 HD2 hbz2 hsz2 hB hbz hN'
          obtain ⟨n, a1, a2, a3, a4, v, hn, rfl, hB, hT, hD, hO, hW⟩ := hrel
          by_cases hlt2 : n < N
          · obtain ⟨v', hw', hc⟩ := HBE.out n hn _ hW
            have hW2 := hw'.at (lin_one X dx n) (lin_one Y dy n)
            obtain ⟨y1, y2, y3, y4, rfl, f1, f2, _, _⟩ := hW2.is
            obtain ⟨b1, b2⟩ := HBD.out n hlt2
            have hll : (((0, 0) :: tpts (l.take k) (0, 0, 0)) ++ tline X Y dx dy n).length ≤ 1000000000 := by
              rw [List.length_append, tline_length]
              omega
            have hbq : B ≤ wr.heap.size := Nat.le_of_lt (Nat.lt_of_le_of_lt hbw2 (lt_of_block hD))
            have htell := fun w h hz => wtell_any B b y1 y2 _ _ v _ w h hz hll f1 f2 b1 b2
            obtain ⟨g0, g1, _, _⟩ := Cell2.of_heap hD
            obtain ⟨o0, o1, _, _⟩ := Cell2.of_heap hO
            have HC := Lib.hid hc
            have HTELL := Lib.hid htell
            have HW2 := Lib.hid hW2
            have HT0 := Lib.hid hT
            have HD0 := Lib.hid hD
            have HO0 := Lib.hid hO
            have hn0 : (n : Int) < N := by omega
            clear hc hw' hW2 hT hD hO f1 f2 b1 b2 hW htell hll
            go_wp2_with (first
              | (go_at_call 40; refine (HC.out _).mono ?_; rintro e w2 ⟨rfl, hb⟩; have hB2 := ((hB.trans (hb.mono hbq)).setCell (p := ⟨bw, 0, none⟩) hbw2 (.complex .f64 y1 y2)).setCell (p := ⟨bw, 1, none⟩) hbw2 (.complex .f64 y3 y4); have HD2 := Lib.hid (block_keep HD0.out hb); have HO2 := Lib.hid (set_keep (set_keep (block_keep HO0.out hb) 0 (.complex .f64 y1 y2) hob2) 1 (.complex .f64 y3 y4) hob2); have HT2 := Lib.hid (((HT0.out.kept hb).away 0 (.complex .f64 y1 y2) hbw1.symm HD2.out (by decide)).away 1 (.complex .f64 y3 y4) hbw1.symm (heap1_first HD2.out _) (by decide)); have HH2 := Lib.hid (heap2_set HD2.out (.complex .f64 y1 y2) (.complex .f64 y3 y4)); have hz2 : B ≤ ((w2.setCell ⟨bw, 0, none⟩ (.complex .f64 y1 y2)).setCell ⟨bw, 1, none⟩ (.complex .f64 y3 y4)).heap.size := Nat.le_of_lt (Nat.lt_of_le_of_lt hbw2 (lt_of_block HH2.out)); clear g0 g1 o0 o1; obtain ⟨g0, g1, q0, q1⟩ := Cell2.of_heap HD2.out; clear hb)
              | (go_at_call 38; refine (HTELL.out _ HT2.out hz2).mono ?_; rintro e w4 ⟨rfl, v2, ht, hr⟩; have HT4 := Lib.hid ht; have HR4 := Lib.hid hr; clear ht hr g0 g1 q0 q1))
            go_roundw
            case rel => exact ⟨n + 1, y1, y2, y3, y4, v2, hlt2, by go_num, hB2.trans HR4.out.below, by rw [show tline X Y dx dy (n + 1) = tline X Y dx dy n ++ [(X + ((n : Int) + 1) * dx, Y + ((n : Int) + 1) * dy)] from rfl, ← List.append_assoc]; exact HT4.out, HR4.out.keep HH2.out hbw1.symm HT2.out.own (by decide), HR4.out.keep HO2.out hob1 HT2.out.own (by decide), HW2.out.at (by rw [Int.natCast_add]; rfl) (by rw [Int.natCast_add]; rfl)⟩
            case measure => simp [intOf]; omega
          · have hnN : n = N := by omega
            subst hnN
            have HT0 := Lib.hid hT
            have HD0 := Lib.hid hD
            have HW0 := Lib.hid hW
            clear hT hD hO hW HBE HBD
            go_wp2
            go_roundw
            case rel => exact ⟨k + 1, T, X + n * dx, Y + n * dy, a1, a2, a3, a4, v, by omega, by go_num, HS.out, hB, by rw [HTR.out]; exact HT0.out, HD0.out, HW0.out⟩
            case measure => simp [intOf]; omega
    · rw [List.take_of_length_le (by omega)] at hT
      have HTT := Lib.hid hT
      clear ha hs bX bY hT hD hW
      go_wp2
      go_end0
      exact ⟨rfl, v, HTT.out, hB⟩
end Go.Proofs.Ytibeljppjaenbaa
