/- Texts of this proof, joined: PlanF; PlanG; Sorted; Shelf; PlanH. -/
import Derived.Test.YtddlgnfghecncaaBun7
import Derived.Sort.Grow
import Derived.Sort.EncStr
import Derived.Lib.SlicesCompact
import Derived.Lib.RowBridge
import Derived.Shelf.Small.Bits
import Derived.Shelf.Small.Wraps
import Derived.Shelf.Strconv.Itoa0
import Derived.Shelf.Sort.Plain
import Derived.Ground.Names2Prog
import Derived.Shelf.Slices.CompactI
import Derived.Shelf.Slices.SearchI
import Derived.Shelf.Slices.Cells
import Derived.Shelf.Slices.In.SortNone
import Derived.Test.YtddlgnfghecncaaProg
/- The walks of package plan: each step of a straight way; the whole way. -/
namespace Go.Proofs.Ytddlgnfghecncaa
open Go.RowKit

set_option maxHeartbeats 2000000 in
set_option maxRecDepth 100000 in
theorem peach_any (p q s t : Nat) (x y u v how : Int) (hp : Fl p x) (hq : Fl q y) (hs : Fl s u) (ht : Fl t v) (ha : (-1000 ≤ x ∧ x ≤ 1000) ∧ -1000 ≤ y ∧ y ≤ 1000) (hb : (-1000 ≤ u ∧ u ≤ 1000) ∧ -1000 ≤ v ∧ v ≤ 1000) (hst : strt (x, y) (u, v))
    (r B : Nat) (L : List (Int × Int)) (w : World) (hBw : B ≤ w.heap.size) (hBr : B ≤ r) (h : RBox w r B L) (hL : L.length + gap (x, y) (u, v) ≤ 100000) :
    Calls Try.prog 39 #[.complex .f64 p q, .complex .f64 s t, .func (.func 37) #[] #[.pointer (some ⟨r, 0, none⟩)]] w fun e w' => e = .returned (.tuple #[]) ∧ RBox w' r B (L ++ (rway (x, y) (u, v) how).tail) ∧ Below B w w' := by
  obtain ⟨hrun, hre, him⟩ := cDif_whole 57 (a := s) (b := t) (c := p) (d := q) hs ht hp hq (by omega) (by omega)
  have h1 := fun w => psign_any _ _ hre w
  have h2 := fun w => psign_any _ _ him w
  have a1 := sgn_abs (u - x)
  have a2 := sgn_abs (v - y)
  have F1 : Fl (fl (sgn (u - x))) (sgn (u - x)) := fl_small (by omega)
  have F2 : Fl (fl (sgn (v - y))) (sgn (v - y)) := fl_small (by omega)
  have hkeep0 : (x, y) ≠ (u, v) → sgn (u - x) = sgn (u - x) ∧ sgn (v - y) = sgn (v - y) := fun _ => ⟨rfl, rfl⟩
  obtain ⟨s1, hs1⟩ : ∃ s1, sgn (u - x) = s1 := ⟨_, rfl⟩
  obtain ⟨s2, hs2⟩ : ∃ s2, sgn (v - y) = s2 := ⟨_, rfl⟩
  rw [hs1] at h1 a1 F1
  rw [hs2] at h2 a2 F2
  have hkeep1 : (x, y) ≠ (u, v) → sgn (u - x) = s1 ∧ sgn (v - y) = s2 := fun _ => ⟨hs1, hs2⟩
  generalize fl s1 = S1 at *
  generalize fl s2 = S2 at *
  generalize fbits .sub s p = D1 at *
  generalize fbits .sub t q = D2 at *
  have HK := Lib.hid hkeep1
  have HS1 := Lib.hid h1
  have HS2 := Lib.hid h2
  have HRB := Lib.hid h
  have HST := Lib.hid hst
  clear h1 h2 hkeep0 hkeep1 hs1 hs2 hre him h hst
  go_enter Try.func39, Try.ntmps39
  go_wp2
  refine wp_scope_goto 0 (fun n a' w' => ∃ (z1 z2 : Int) (P Q : Nat) (L' : List (Int × Int)), n = gap (z1, z2) (u, v) ∧ Fl P z1 ∧ Fl Q z2 ∧ ((-1000 ≤ z1 ∧ z1 ≤ 1000) ∧ -1000 ≤ z2 ∧ z2 ≤ 1000) ∧ strt (z1, z2) (u, v) ∧ ((z1, z2) ≠ (u, v) → sgn (u - z1) = s1 ∧ sgn (v - z2) = s2) ∧
      L' ++ (rway (z1, z2) (u, v) how).tail = L ++ (rway (x, y) (u, v) how).tail ∧ L'.length + n = L.length + gap (x, y) (u, v) ∧ RBox w' r B L' ∧ Below B w w' ∧ ∃ f : Nat → Value, a' = { tmps := #[.complex .f64 P Q, .complex .f64 s t, .func (.func 37) #[] #[.pointer (some ⟨r, 0, none⟩)], f 3, f 4, f 5, .complex .f64 S1 S2, f 7, f 8, f 9, f 10, f 11, f 12, f 13, f 14, f 15, f 16, f 17, f 18, f 19, f 20, f 21, f 22, f 23, f 24, f 25, f 26], defers := [] }) rfl rfl ?_ ?_
  · clear hrun HS1 HS2 HRB HST HK hp hq
    rintro n a' w' ⟨z1, z2, P, Q, L', rfl, hP, hQ, hz, hzs, hzk, hLL, hlen, hbox, hB, f, rfl⟩ K hK
    have o1 := ord_eq hP hs
    have o2 := ord_eq hQ ht
    by_cases he : (z1, z2) = (u, v)
    · have e1 : z1 = u := congrArg Prod.fst he
      have e2 : z2 = v := congrArg Prod.snd he
      rw [decide_eq_true e1] at o1
      rw [decide_eq_true e2] at o2
      rw [he, rway_self, List.tail_cons, List.append_nil] at hLL
      have HLL := Lib.hid hLL
      have HBX := Lib.hid hbox
      clear hzs hzk hLL hlen hbox hK he hP hQ hs ht
      go_wp2
      simp only [Exit.jump]
      go_end0
      exact ⟨rfl, by rw [← HLL.out]; exact HBX.out, hB⟩
    · obtain ⟨r1, r2, r3⟩ := rst_strt how hzs he
      obtain ⟨k1, k2⟩ := hzk he
      have hgp := rst_gap how he
      have hbd := rst_bd (how := how) (B := 1000) (a := (z1, z2)) (b := (u, v)) hz hb
      have hcons := rway_cons how he
      simp only at r1 r3
      rw [k1, k2] at r1 r3
      rw [r1] at r2 r3 hgp hbd hcons
      simp only at r3 hbd
      have hne : ¬ (z1 = u ∧ z2 = v) := fun ⟨e1, e2⟩ => he (by rw [e1, e2])
      obtain ⟨hadd, f1, f2⟩ := cSum_whole 57 (a := P) (b := Q) (c := S1) (d := S2) hP hQ F1 F2 rfl (by omega) (by omega)
      have hll : L' ++ (rway (z1, z2) (u, v) how).tail = (L' ++ [(z1 + s1, z2 + s2)]) ++ (rway (z1 + s1, z2 + s2) (u, v) how).tail := by
        rw [hcons, List.tail_cons, rway_ne (z1 + s1, z2 + s2), List.append_assoc]
        rfl
      rw [hll] at hLL
      have hsz : B ≤ w'.heap.size := by have := hB.size; omega
      have htell := fun (_ : True) => ptell_any _ _ _ _ f1 f2 (by omega) (by omega) r B L' w' hsz hBr hbox (by omega)
      generalize fbits .add P S1 = P' at *
      generalize fbits .add Q S2 = Q' at *
      have HT := Lib.hid htell
      have HR := Lib.hid r3
      have HLL := Lib.hid hLL
      have HR2 := Lib.hid r2
      clear hzs hzk hLL hbox he hP hQ r1 r2 r3 k1 k2 hcons hll htell hs ht
      rcases Classical.em (z1 = u) with e1 | e1
      · have e2 : ¬ z2 = v := fun e2 => hne ⟨e1, e2⟩
        rw [decide_eq_true e1] at o1
        rw [decide_eq_false e2] at o2
        go_wp2_with (go_at_call 37; (with_reducible refine (HT.out trivial).mono ?_); rintro e w1 ⟨rfl, hbx, hb1⟩; have HBX := Lib.hid hbx; clear hbx; have hB1 := hB.trans hb1)
        go_step3
        exact ⟨rfl, hK _ _ _ (by omega) ⟨_, _, P', Q', _, rfl, f1, f2, by omega, HR2.out, HR.out, HLL.out, by rw [List.length_append]; simp only [List.length_cons, List.length_nil]; omega, HBX.out, hB1, frame_of' rfl⟩⟩
      · rw [decide_eq_false e1] at o1
        go_wp2_with (go_at_call 37; (with_reducible refine (HT.out trivial).mono ?_); rintro e w1 ⟨rfl, hbx, hb1⟩; have HBX := Lib.hid hbx; clear hbx; have hB1 := hB.trans hb1)
        go_step3
        exact ⟨rfl, hK _ _ _ (by omega) ⟨_, _, P', Q', _, rfl, f1, f2, by omega, HR2.out, HR.out, HLL.out, by rw [List.length_append]; simp only [List.length_cons, List.length_nil]; omega, HBX.out, hB1, frame_of' rfl⟩⟩
  · intro K hpass
    go_wp2_with (first
      | (go_at_call 53; (with_reducible refine (HS1.out _).mono ?_); rintro e w1 ⟨rfl, rfl⟩)
      | (go_at_call 53; (with_reducible refine (HS2.out _).mono ?_); rintro e w1 ⟨rfl, rfl⟩))
    go_step3
    rename_i hback
    exact hback _ _ (hpass _ _ _ ⟨x, y, p, q, L, rfl, hp, hq, ha, HST.out, HK.out, rfl, rfl, HRB.out, Below.refl _ _, frame_of' rfl⟩)
end Go.Proofs.Ytddlgnfghecncaa
/- The walks of package plan: the way, by two straight ones. -/
namespace Go.Proofs.Ytddlgnfghecncaa
open Go.RowKit

theorem corner_is (a1 a2 b1 b2 how : Int) (ha : (-1000 ≤ a1 ∧ a1 ≤ 1000) ∧ -1000 ≤ a2 ∧ a2 ≤ 1000) (hb : (-1000 ≤ b1 ∧ b1 ≤ 1000) ∧ -1000 ≤ b2 ∧ b2 ≤ 1000) :
    ∃ (C1 C2 : Nat) (c1 c2 : Int), trn how (a1, a2) (b1, b2) = (c1, c2) ∧ Fl C1 c1 ∧ Fl C2 c2 ∧ ((-1000 ≤ c1 ∧ c1 ≤ 1000) ∧ -1000 ≤ c2 ∧ c2 ≤ 1000) ∧ strt (a1, a2) (c1, c2) ∧ strt (c1, c2) (b1, b2) ∧
      ∀ w, Calls Try.prog 38 #[.complex .f64 (fl a1) (fl a2), .complex .f64 (fl b1) (fl b2), .int .i64 how] w fun e w' => e = .returned (.complex .f64 C1 C2) ∧ w = w' := by
  have hbt := fun w => pbetween_any (fl a1) (fl a2) (fl b1) (fl b2) how w
  by_cases h : how = 1
  · simp only [if_pos h] at hbt
    exact ⟨fl a1, fl b2, a1, b2, by unfold trn; rw [if_pos h], fl_small (by omega), fl_small (by omega), by omega, .inl rfl, .inr rfl, hbt⟩
  · simp only [if_neg h] at hbt
    exact ⟨fl b1, fl a2, b1, a2, by unfold trn; rw [if_neg h], fl_small (by omega), fl_small (by omega), by omega, .inr rfl, .inl rfl, hbt⟩

theorem ownp_one (w : World) (x y : Int) : OwnP (w.alloc (.cells #[.int .i64 x, .int .i64 y] 24)) w.heap.size 24 (.slice (some ⟨w.heap.size, 0, none⟩) 1 1) [(x, y)] :=
  ⟨rfl, .inr ⟨w.heap.size, 1, _, rfl, Nat.le_refl _, Array.getElem?_push_size, by simp, by simp [maxLen], rfl, rfl⟩⟩

set_option maxHeartbeats 2000000 in
set_option maxRecDepth 100000 in
theorem pRoute_any (x1 y1 x2 y2 how : Int) (w : World) :
    Calls Try.prog 16 #[.agg #[.int .i64 x1, .int .i64 y1], .agg #[.int .i64 x2, .int .i64 y2], .int .i64 how] w fun e w' => ∃ v, e = .returned v ∧ PairsAt w' v (rway (wd x1, wd y1) (wd x2, wd y2) how) ∧ Below w.heap.size w w' := by
  have n1 := fun w => pnumber_any x1 y1 w
  have n2 := fun w => pnumber_any x2 y2 w
  have b1 := wd_bd x1
  have b2 := wd_bd y1
  have b3 := wd_bd x2
  have b4 := wd_bd y2
  generalize wd x1 = a1 at *
  generalize wd y1 = a2 at *
  generalize wd x2 = u1 at *
  generalize wd y2 = u2 at *
  have ba : (-1000 ≤ a1 ∧ a1 ≤ 1000) ∧ -1000 ≤ a2 ∧ a2 ≤ 1000 := ⟨b1, b2⟩
  have bb : (-1000 ≤ u1 ∧ u1 ≤ 1000) ∧ -1000 ≤ u2 ∧ u2 ≤ 1000 := ⟨b3, b4⟩
  obtain ⟨C1, C2, c1, c2, htrn, hc1, hc2, bc, hs1, hs2, hbt⟩ := corner_is a1 a2 u1 u2 how ba bb
  have hsp := rway_split how (u1, u2) _ (a1, a2) rfl
  rw [htrn, rway_ne (a1, a2) (c1, c2)] at hsp
  have hf1 : Fl (fl a1) a1 := fl_small (by omega)
  have hf2 : Fl (fl a2) a2 := fl_small (by omega)
  have hf3 : Fl (fl u1) u1 := fl_small (by omega)
  have hf4 : Fl (fl u2) u2 := fl_small (by omega)
  have hg1 := gap_bd (a := (a1, a2)) (b := (c1, c2)) ba bc
  have hg2 := gap_bd (a := (c1, c2)) (b := (u1, u2)) bc bb
  have hpt := fun w => ppoint_any _ _ a1 a2 hf1 hf2 (by omega) (by omega) w
  have he1 := fun r B L w h1 h2 h3 h4 => peach_any _ _ _ _ a1 a2 c1 c2 how hf1 hf2 hc1 hc2 ba bc hs1 r B L w h1 h2 h3 h4
  have he2 := fun r B L w h1 h2 h3 h4 => peach_any _ _ _ _ c1 c2 u1 u2 how hc1 hc2 hf3 hf4 bc bb hs2 r B L w h1 h2 h3 h4
  have hlen1 : ([(a1, a2)] ++ (rway (a1, a2) (c1, c2) how).tail).length ≤ 4001 := by
    rw [List.length_append, List.length_tail, rway_length]
    simp
    omega
  generalize fl a1 = A1 at *
  generalize fl a2 = A2 at *
  generalize fl u1 = U1 at *
  generalize fl u2 = U2 at *
  have N1 := Lib.hid n1
  have N2 := Lib.hid n2
  have HBT := Lib.hid hbt
  have HPT := Lib.hid hpt
  have HE1 := Lib.hid he1
  have HE2 := Lib.hid he2
  have HSP := Lib.hid hsp
  have HL1 := Lib.hid hlen1
  have HG1 := Lib.hid hg1
  have HG2 := Lib.hid hg2
  clear n1 n2 hbt hpt he1 he2 hsp htrn hc1 hc2 bc hs1 hs2 hf1 hf2 hf3 hf4 hg1 hg2 ba bb b1 b2 b3 b4 hlen1
  have hB : Below w.heap.size w ((w.alloc (.cells #[.int .i64 x1, .int .i64 y1] 24)).alloc (.cells #[.int .i64 x2, .int .i64 y2] 24)) := ((Below.refl _ _).alloc (Nat.le_refl _) _).alloc (by simp) _
  have C0 := (Cell2.new w (.int .i64 x1) (.int .i64 y1) 24).alloc (.cells #[.int .i64 x2, .int .i64 y2] 24)
  have D0 := Cell2.new (w.alloc (.cells #[.int .i64 x1, .int .i64 y1] 24)) (.int .i64 x2) (.int .i64 y2) 24
  simp only [World.size_alloc] at D0
  go_enter Try.func16, Try.ntmps16
  go_wp2
  refine wp_region_calm0 (by kernel_rfl) (by kernel_rfl) fun M => ?_
  have e0 := fun n : In M.w => n.cell (M.cell C0.c0)
  have e1 := fun n : In M.w => n.cell (M.cell C0.c1)
  have e2 := fun n : In M.w => n.cell (M.cell D0.c0)
  have e3 := fun n : In M.w => n.cell (M.cell D0.c1)
  repeat (go_big_quiet_step (first
    | (go_at_call 35; with_reducible exact In.call (N1.out _))
    | (go_at_call 35; with_reducible exact In.call (N2.out _))))
  refine wpQuiet_nil ?_
  intro w1 hb
  replace hB := hB.trans (hb.mono hB.size)
  clear e0 e1 e2 e3 M C0 D0 hb
  go_wp2_with (first
    | (go_at_call 36; (with_reducible refine (HPT.out _).mono ?_); rintro e w2 ⟨rfl, hb⟩; replace hB := hB.trans (hb.mono hB.size); have hZ2 : w.heap.size ≤ w2.heap.size := hB.size; replace hB := (hB.alloc hB.size (.cells #[.int .i64 a1, .int .i64 a2] 24)); replace hB := (hB.alloc hB.size (.cells #[.slice (some ⟨w2.heap.size, 0, none⟩) 1 1] 34)); have hbox := Lib.hid (show RBox ((w2.alloc (.cells #[.int .i64 a1, .int .i64 a2] 24)).alloc (.cells #[.slice (some ⟨w2.heap.size, 0, none⟩) 1 1] 34)) (w2.heap.size + 1) w2.heap.size [(a1, a2)] from ⟨_, by have := heap_alloc_new (w2.alloc (.cells #[.int .i64 a1, .int .i64 a2] 24)) (.cells #[.slice (some ⟨w2.heap.size, 0, none⟩) 1 1] 34); rwa [World.size_alloc] at this, (ownp_one w2 a1 a2).alloc _⟩); clear hb)
    | (go_at_call 38; (with_reducible refine (HBT.out _).mono ?_); rintro e w3 ⟨rfl, rfl⟩)
    | (go_at_call 39; (with_reducible refine (HE1.out (w2.heap.size + 1) w2.heap.size [(a1, a2)] _ (by simp; omega) (by omega) hbox.out (by have := HG1.out; simp; omega)).mono ?_); rintro e w4 ⟨rfl, hbox2, hb⟩; have HBOX2 := Lib.hid hbox2; have hz4 := hb.size; simp only [World.size_alloc] at hz4; replace hB := hB.trans (hb.mono hZ2); clear hb hbox hbox2 HE1)
    | (go_at_call 39; (with_reducible refine (HE2.out (w2.heap.size + 1) w2.heap.size _ _ (by omega) (by omega) HBOX2.out (by have := HL1.out; have := HG2.out; omega)).mono ?_); rintro e w5 ⟨rfl, hbox3, hb⟩; obtain ⟨v, hv1, hv2⟩ := hbox3; have HV2 := Lib.hid hv2; replace hB := hB.trans (hb.mono hZ2); have c0 : w5.cell? ⟨w2.heap.size + 1, 0, none⟩ = some v := (by simp [World.cell?, hv1]); clear hb HBOX2 hv1 hv2))
  go_ret
  exact ⟨_, rfl, by rw [HSP.out]; exact HV2.out.pairs, hB⟩
end Go.Proofs.Ytddlgnfghecncaa
/- A list of numbers that the call has gathered, sorted and without repetitions: what the library's contracts give. -/
namespace Go.Proofs.Ytddlgnfghecncaa
open Go.RowKit Go.Sort

/-! ### Lists that rise -/
theorem rise_ext : ∀ {l r : List Int}, l.Pairwise (· < ·) → r.Pairwise (· < ·) → (∀ m, m ∈ l ↔ m ∈ r) → l = r
  | [], [], _, _, _ => rfl
  | [], y :: r, _, _, h => absurd ((h y).2 (by simp)) (by simp)
  | x :: l, [], _, _, h => absurd ((h x).1 (by simp)) (by simp)
  | x :: l, y :: r, hl, hr, h => by
    rw [List.pairwise_cons] at hl hr
    have e : x = y := by
      have h1 := (h x).1 (by simp)
      have h2 := (h y).2 (by simp)
      rw [List.mem_cons] at h1 h2
      rcases h1 with h1 | h1
      · exact h1
      · rcases h2 with h2 | h2
        · exact h2.symm
        · have := hl.1 _ h2
          have := hr.1 _ h1
          omega
    subst e
    have : l = r := rise_ext hl.2 hr.2 fun m => by
      have := h m
      rw [List.mem_cons, List.mem_cons] at this
      constructor
      · intro hm
        have h3 := hl.1 _ hm
        rcases this.1 (.inr hm) with rfl | h4
        · omega
        · exact h4
      · intro hm
        have h3 := hr.1 _ hm
        rcases this.2 (.inr hm) with rfl | h4
        · omega
        · exact h4
    rw [this]

theorem sorted_ms (zs : List Int) : (zs.mergeSort fun x y => decide (x ≤ y)).Pairwise (· ≤ ·) := by
  have := List.pairwise_mergeSort (le := fun x y : Int => decide (x ≤ y)) (fun a b c h1 h2 => by simp at *; omega) (fun a b => by simp; omega) zs
  exact this.imp fun h => by simpa using h

theorem compact_rise {zs : List Int} (h : zs.Pairwise (· ≤ ·)) : (Lib.compact zs).Pairwise (· < ·) := by
  unfold Lib.compact Lib.compactUpTo
  rw [List.pairwise_map]
  have h1 : (List.range zs.length).Pairwise (· < ·) := List.pairwise_lt_range
  have h2 := h1.filter (Lib.keeps zs.toArray)
  refine List.Pairwise.imp_of_mem (fun {i j} hi hj hij => ?_) h2
  have hjm := List.mem_filter.1 hj
  have hjl : j < zs.length := List.mem_range.1 hjm.1
  have hk := hjm.2
  unfold Lib.keeps at hk
  rw [decide_eq_true_eq] at hk
  rcases hk with hk | hk
  · omega
  · have g : ∀ a b, a ≤ b → b < zs.length → zs.toArray[a]! ≤ zs.toArray[b]! := by
      intro a b hab hb
      rcases Nat.lt_or_ge a b with hlt | hge
      · have := List.pairwise_iff_getElem.1 h a b (by omega) hb hlt
        simpa [getElem!_pos, show a < zs.length by omega, hb] using this
      · have : a = b := by omega
        subst this
        exact Int.le_refl _
    have h3 := g i (j - 1) (by omega) (by omega)
    have h4 := g (j - 1) j (by omega) hjl
    omega

theorem compact_mem (zs : List Int) (m : Int) : m ∈ Lib.compact zs ↔ m ∈ zs := by
  unfold Lib.compact Lib.compactUpTo
  rw [List.mem_map]
  constructor
  · rintro ⟨i, hi, rfl⟩
    have := List.mem_range.1 (List.mem_filter.1 hi).1
    simp [getElem!_pos, this]
  · intro hm
    obtain ⟨i, hi, rfl⟩ := List.getElem_of_mem hm
    have key : ∀ n, ∀ i (hi : i < zs.length), i < n → ∃ a, a ∈ (List.range zs.length).filter (Lib.keeps zs.toArray) ∧ zs.toArray[a]! = zs[i] := by
      intro n
      induction n with
      | zero => intro i hi h; omega
      | succ n ih =>
        intro i hi h
        by_cases hk : Lib.keeps zs.toArray i = true
        · exact ⟨i, List.mem_filter.2 ⟨List.mem_range.2 hi, hk⟩, by simp [getElem!_pos, hi]⟩
        · unfold Lib.keeps at hk
          rw [decide_eq_true_eq] at hk
          have h0 : i ≠ 0 := fun e => hk (.inl e)
          have h1 : zs.toArray[i]! = zs.toArray[i - 1]! := by
            by_cases e : zs.toArray[i]! = zs.toArray[i - 1]!
            · exact e
            · exact absurd (.inr e) hk
          obtain ⟨a, ha, he⟩ := ih (i - 1) (by omega) (by omega)
          refine ⟨a, ha, ?_⟩
          rw [he]
          simp [getElem!_pos, hi, show i - 1 < zs.length by omega] at h1
          exact h1.symm
    exact key (i + 1) i hi (by omega)

/-! ### In memory -/
theorem below_row {B blk off n : Nat} {a w : World} {d : Array Int} {os : Array Obj} (h : Below B a w) (hb : B ≤ blk) (hz : B ≤ w.heap.size) : Below B a (grow (putRow (Value.int .i64) (Sort.ahead w n) blk off d) os) := by
  refine h.trans ⟨rfl, rfl, rfl, by simp, fun k hk => ?_⟩
  rw [heap_grow_old _ _ (by simp; omega)]
  have : blk ≠ k := by omega
  simp [putRow, mapBlock, Sort.ahead, Array.getElem?_modify, this]
theorem below_row' {B blk off n : Nat} {a w : World} {d : Array Int} (h : Below B a w) (hb : B ≤ blk) (hz : B ≤ w.heap.size) : Below B a (putRow (Value.int .i64) (Sort.ahead w n) blk off d) := by
  have := below_row (n := n) (off := off) (d := d) (os := #[]) h hb hz
  rwa [grow_empty] at this
theorem ints_of_holds {w : World} {blk cap : Nat} {zs : List Int} {d : Array Int} (hH : Holds (Value.int .i64) w blk 0 d) (hb : blk < w.heap.size) (hd : ∀ j x, zs[j]? = some x → j < d.size ∧ d[j]! = x) (hc : zs.length ≤ cap) : IntsAt w (.slice (some ⟨blk, 0, none⟩) zs.length cap) zs := by
  refine ⟨_, cap, rfl, hc, fun _ => ⟨blk, 0, rfl, hb, fun j x hj => ?_⟩⟩
  obtain ⟨h1, h2⟩ := hd j x hj
  have := (hH j h1).1
  rw [h2] at this
  exact this
/-- a list that the call has gathered, of at least one -/
theorem OwnI.holds {w : World} {B : Nat} {v : Value} {l : List Int} (h : OwnI w B v l) (h0 : 0 < l.length) :
    ∃ g cap, v = .slice (some ⟨g, 0, none⟩) l.length cap ∧ B ≤ g ∧ g < w.heap.size ∧ l.length ≤ cap ∧ Holds (Value.int .i64) w g 0 l.toArray := by
  rcases h.2 with ⟨rfl, he⟩ | ⟨g, cap, cur, rfl, hg, hh, hnc, hcp, hcs, htake⟩
  · omega
  · refine ⟨g, cap, rfl, hg, (Array.getElem?_eq_some_iff.1 hh).1, hnc, fun j hj => ?_⟩
    have hj' : j < l.length := by simpa using hj
    refine ⟨?_, by simp [World.frozen?, hh]⟩
    have h1 := flats_at csI_len l j l[j] (List.getElem?_eq_getElem hj') 0 (.int .i64 l[j]) rfl
    rw [Nat.mul_one, Nat.add_zero, ← htake, List.getElem?_take_of_lt (by omega)] at h1
    simp only [World.cell?, hh, Nat.zero_add]
    simp [hj'] at h1 ⊢
    exact h1

/-- behind the sort and Compact -/
theorem ints_compact {w : World} {g cap n q : Nat} {os : Array Obj} {l : List Int} (hH : Holds (Value.int .i64) w g 0 l.toArray) (hg : g < w.heap.size) (hc : l.length ≤ cap) :
    IntsAt (putRow (Value.int .i64) (Sort.ahead (grow (putRow (Value.int .i64) (Sort.ahead w n) g 0 (l.mergeSort fun x y => decide (x ≤ y)).toArray) os) q) g 0 (Lib.compact (l.mergeSort fun x y => decide (x ≤ y)) ++ List.replicate ((l.mergeSort fun x y => decide (x ≤ y)).length - (Lib.compact (l.mergeSort fun x y => decide (x ≤ y))).length) 0).toArray)
      (.slice (some ⟨g, 0, none⟩) (Lib.compact (l.mergeSort fun x y => decide (x ≤ y))).length cap) (Lib.compact (l.mergeSort fun x y => decide (x ≤ y))) := by
  have hlen : (l.mergeSort fun x y => decide (x ≤ y)).length = l.length := List.length_mergeSort l
  generalize (l.mergeSort fun x y => decide (x ≤ y)) = s at *
  have hcl := Lib.compact_length_le s
  have H1 : Holds (Value.int .i64) (grow (putRow (Value.int .i64) (Sort.ahead w n) g 0 s.toArray) os) g 0 s.toArray :=
    holds_grow _ _ _ _ _ _ (by simpa using hg) (holds_putRow _ _ _ _ l.toArray _ (holds_ahead _ _ _ _ _ _ hH) (by simpa using hlen))
  have H2 := holds_putRow (Value.int .i64) (Sort.ahead (grow (putRow (Value.int .i64) (Sort.ahead w n) g 0 s.toArray) os) q) g 0 s.toArray (Lib.compact s ++ List.replicate (s.length - (Lib.compact s).length) 0).toArray (holds_ahead _ _ _ _ _ _ H1) (by simp; omega)
  refine ints_of_holds H2 (by simp; omega) (fun j x hj => ?_) (by omega)
  have hjl := (List.getElem?_eq_some_iff.1 hj).1
  refine ⟨by simp; omega, ?_⟩
  rw [getElem!_pos _ _ (by simp; omega)]
  rw [List.getElem?_eq_getElem hjl] at hj
  simp [List.getElem_append_left hjl]
  exact Option.some.inj hj
theorem holds_sorted {w : World} {g n : Nat} {os : Array Obj} {l : List Int} (hH : Holds (Value.int .i64) w g 0 l.toArray) (hg : g < w.heap.size) :
    Holds (Value.int .i64) (grow (putRow (Value.int .i64) (Sort.ahead w n) g 0 (l.mergeSort fun x y => decide (x ≤ y)).toArray) os) g 0 (l.mergeSort fun x y => decide (x ≤ y)).toArray :=
  holds_grow _ _ _ _ _ _ (by simpa using hg) (holds_putRow _ _ _ _ l.toArray _ (holds_ahead _ _ _ _ _ _ hH) (by simp))
end Go.Proofs.Ytddlgnfghecncaa
/-
  DERIVED: THE SHELF's CONTRACTS AT THIS DUMP, IN PLAIN WORDS (tools/lay-plain.mjs out of 'TryShelf.lean', which tools/lay-shelf.mjs wrote): THE SAME DECLARATIONS UNDER THE SAME NAMES: 'import', 'namespace', 'open', 'def', 'theorem' AND NOTHING ELSE: no command of the shelf's: FOR A HAND-IN. Each laying: the table of numbers ('.._ren') and one theorem, a field a fact of the dump's own or the kernel's comparison; each contract: ONE APPLICATION.
-/
namespace Go.Proofs
open Go.Shelf
def Try.lays128_ren : Go.Shelf.Ren := ⟨fun | 128 => 75 | n => n, fun | 51 => 93 | 3 => 3 | 4 => 4 | 46 => 78 | 5 => 5 | 9 => 9 | n => n, fun | n => n⟩
theorem Try.lays128 : Go.Proofs.Lays.n128 Try.prog Try.lays128_ren := {
  mixed := by kernel_rfl
  f128 := Try.func75.trans (congrArg some (by kernel_rfl))
  t3 := Try.underlying3
  a3 := Try.isAgg3
  z3 := Try.sizeOf3
  v3 := Try.zeroValue3
  t4 := Try.underlying4
  a4 := Try.isAgg4
  z4 := Try.sizeOf4
  v4 := Try.zeroValue4
  t5 := Try.underlying5
  a5 := Try.isAgg5
  z5 := Try.sizeOf5
  v5 := Try.zeroValue5
  t9 := Try.underlying9
  a9 := Try.isAgg9
  z9 := Try.sizeOf9
  v9 := Try.zeroValue9
  t46 := Try.underlying78
  a46 := Try.isAgg78
  z46 := Try.sizeOf78
  v46 := Try.zeroValue78
  t51 := Try.underlying93
  a51 := Try.isAgg93
  z51 := Try.sizeOf93
  v51 := Try.zeroValue93 }
/-- bits.Len32: "Len32 returns the minimum number of bits required to represent x; the result is 0 for x == 0.": IT RETURNS 'Lib.bitLen x'; the world is as it was. ('h0', 'h1': x is a uint32.) (LAID: no walk: one application.) -/
theorem Try.bits_Len32 (x : Int) (w : World) (h0 : 0 ≤ x) (h1 : x ≤ 4294967295) :
    Calls Try.prog 75 #[.int .u32 x] w fun e w' => e = .returned (.int .i64 (Lib.bitLen x.toNat)) ∧ w' = w := Any.bits_Len32 Try.lays128 x w h0 h1
def Try.lays125_ren : Go.Shelf.Ren := ⟨fun | 125 => 56 | 128 => 75 | 129 => 76 | n => n, fun | 46 => 78 | 3 => 3 | 51 => 93 | 53 => 95 | 4 => 4 | 5 => 5 | 9 => 9 | n => n, fun | n => n⟩
theorem Try.lays125 : Go.Proofs.Lays.n125 Try.prog Try.lays125_ren := {
  mixed := by kernel_rfl
  f125 := Try.func56.trans (congrArg some (by kernel_rfl))
  f128 := Try.func75.trans (congrArg some (by kernel_rfl))
  f129 := Try.func76.trans (congrArg some (by kernel_rfl))
  t3 := Try.underlying3
  a3 := Try.isAgg3
  z3 := Try.sizeOf3
  v3 := Try.zeroValue3
  t4 := Try.underlying4
  a4 := Try.isAgg4
  z4 := Try.sizeOf4
  v4 := Try.zeroValue4
  t5 := Try.underlying5
  a5 := Try.isAgg5
  z5 := Try.sizeOf5
  v5 := Try.zeroValue5
  t9 := Try.underlying9
  a9 := Try.isAgg9
  z9 := Try.sizeOf9
  v9 := Try.zeroValue9
  t46 := Try.underlying78
  a46 := Try.isAgg78
  z46 := Try.sizeOf78
  v46 := Try.zeroValue78
  t51 := Try.underlying93
  a51 := Try.isAgg93
  z51 := Try.sizeOf93
  v51 := Try.zeroValue93
  t53 := Try.underlying95
  a53 := Try.isAgg95
  z53 := Try.sizeOf95
  v53 := Try.zeroValue95 }
/-- bits.Len: "Len returns the minimum number of bits required to represent x; the result is 0 for x == 0.": IT RETURNS 'Lib.bitLen x'; the world is as it was. (A uint has 64 bits in the model.) ITS CALLEE bits.Len64 IS MET BY ITS OWN CONTRACT OFF THE SHELF (lay that first). (LAID: no walk: one application.) -/
theorem Try.bits_Len (x : Int) (w : World) (h0 : 0 ≤ x) (h1 : x ≤ 18446744073709551615) :
    Calls Try.prog 56 #[.int .u64 x] w fun e w' => e = .returned (.int .i64 (Lib.bitLen x.toNat)) ∧ w' = w := Any.bits_Len Try.lays125 x w h0 h1
def Try.lays215_ren : Go.Shelf.Ren := ⟨fun | 215 => 87 | n => n, fun | 3 => 3 | 4 => 4 | n => n, fun | n => n⟩
theorem Try.lays215 : Go.Proofs.Lays.n215 Try.prog Try.lays215_ren := {
  mixed := by kernel_rfl
  f215 := Try.func87.trans (congrArg some (by kernel_rfl))
  t3 := Try.underlying3
  a3 := Try.isAgg3
  z3 := Try.sizeOf3
  v3 := Try.zeroValue3
  t4 := Try.underlying4
  a4 := Try.isAgg4
  z4 := Try.sizeOf4
  v4 := Try.zeroValue4 }
open Go.RowKit in
/-- cmp.isNaN at int: 'x != x': false. (LAID: no walk: one application.) -/
theorem Try.cmp_isNaN_int (x : Int) (w : World) :
    Calls Try.prog 87 #[.int .i64 x] w fun e w' => e = .returned (.bool false) ∧ w' = w := Any.cmp_isNaN_int Try.lays215 x w
def Try.lays129_ren : Go.Shelf.Ren := ⟨fun | 129 => 76 | n => n, fun | 53 => 95 | 3 => 3 | 4 => 4 | 46 => 78 | 5 => 5 | 9 => 9 | n => n, fun | n => n⟩
theorem Try.lays129 : Go.Proofs.Lays.n129 Try.prog Try.lays129_ren := {
  mixed := by kernel_rfl
  f129 := Try.func76.trans (congrArg some (by kernel_rfl))
  t3 := Try.underlying3
  a3 := Try.isAgg3
  z3 := Try.sizeOf3
  v3 := Try.zeroValue3
  t4 := Try.underlying4
  a4 := Try.isAgg4
  z4 := Try.sizeOf4
  v4 := Try.zeroValue4
  t5 := Try.underlying5
  a5 := Try.isAgg5
  z5 := Try.sizeOf5
  v5 := Try.zeroValue5
  t9 := Try.underlying9
  a9 := Try.isAgg9
  z9 := Try.sizeOf9
  v9 := Try.zeroValue9
  t46 := Try.underlying78
  a46 := Try.isAgg78
  z46 := Try.sizeOf78
  v46 := Try.zeroValue78
  t53 := Try.underlying95
  a53 := Try.isAgg95
  z53 := Try.sizeOf95
  v53 := Try.zeroValue95 }
/-- bits.Len64: "Len64 returns the minimum number of bits required to represent x; the result is 0 for x == 0.": IT RETURNS 'Lib.bitLen x'; the world is as it was. ('h0', 'h1': x is a uint64.) (LAID: no walk: one application.) -/
theorem Try.bits_Len64 (x : Int) (w : World) (h0 : 0 ≤ x) (h1 : x ≤ 18446744073709551615) :
    Calls Try.prog 76 #[.int .u64 x] w fun e w' => e = .returned (.int .i64 (Lib.bitLen x.toNat)) ∧ w' = w := Any.bits_Len64 Try.lays129 x w h0 h1
def Try.lays189_ren : Go.Shelf.Ren := ⟨fun | 189 => 42 | 125 => 56 | 257 => 55 | 128 => 75 | 129 => 76 | 294 => 66 | 295 => 67 | 296 => 68 | 297 => 69 | 298 => 70 | 299 => 71 | 216 => 72 | 300 => 73 | 301 => 74 | 328 => 82 | 329 => 83 | 330 => 84 | 331 => 85 | 332 => 86 | 215 => 87 | 343 => 90 | n => n, fun | 28 => 37 | 3 => 3 | 46 => 78 | 0 => 0 | 51 => 93 | 53 => 95 | 4 => 4 | 183 => 86 | 182 => 85 | 131 => 28 | 5 => 5 | 9 => 9 | 218 => 97 | 222 => 101 | 228 => 106 | 229 => 107 | n => n, fun | n => n⟩
theorem Try.lays189 : Go.Proofs.Lays.n189 Try.prog Try.lays189_ren := {
  mixed := by kernel_rfl
  f125 := Try.func56.trans (congrArg some (by kernel_rfl))
  f128 := Try.func75.trans (congrArg some (by kernel_rfl))
  f129 := Try.func76.trans (congrArg some (by kernel_rfl))
  f189 := Try.func42.trans (congrArg some (by kernel_rfl))
  f215 := Try.func87.trans (congrArg some (by kernel_rfl))
  f216 := Try.func72.trans (congrArg some (by kernel_rfl))
  f257 := Try.func55.trans (congrArg some (by kernel_rfl))
  f294 := Try.func66.trans (congrArg some (by kernel_rfl))
  f295 := Try.func67.trans (congrArg some (by kernel_rfl))
  f296 := Try.func68.trans (congrArg some (by kernel_rfl))
  f297 := Try.func69.trans (congrArg some (by kernel_rfl))
  f298 := Try.func70.trans (congrArg some (by kernel_rfl))
  f299 := Try.func71.trans (congrArg some (by kernel_rfl))
  f300 := Try.func73.trans (congrArg some (by kernel_rfl))
  f301 := Try.func74.trans (congrArg some (by kernel_rfl))
  f328 := Try.func82.trans (congrArg some (by kernel_rfl))
  f329 := Try.func83.trans (congrArg some (by kernel_rfl))
  f330 := Try.func84.trans (congrArg some (by kernel_rfl))
  f331 := Try.func85.trans (congrArg some (by kernel_rfl))
  f332 := Try.func86.trans (congrArg some (by kernel_rfl))
  f343 := Try.func90.trans (congrArg some (by kernel_rfl))
  t0 := Try.underlying0
  a0 := Try.isAgg0
  z0 := Try.sizeOf0
  v0 := Try.zeroValue0
  t3 := Try.underlying3
  a3 := Try.isAgg3
  z3 := Try.sizeOf3
  v3 := Try.zeroValue3
  t4 := Try.underlying4
  a4 := Try.isAgg4
  z4 := Try.sizeOf4
  v4 := Try.zeroValue4
  t5 := Try.underlying5
  a5 := Try.isAgg5
  z5 := Try.sizeOf5
  v5 := Try.zeroValue5
  t9 := Try.underlying9
  a9 := Try.isAgg9
  z9 := Try.sizeOf9
  v9 := Try.zeroValue9
  t28 := Try.underlying37
  a28 := Try.isAgg37
  z28 := Try.sizeOf37
  v28 := Try.zeroValue37
  t46 := Try.underlying78
  a46 := Try.isAgg78
  z46 := Try.sizeOf78
  v46 := Try.zeroValue78
  t51 := Try.underlying93
  a51 := Try.isAgg93
  z51 := Try.sizeOf93
  v51 := Try.zeroValue93
  t53 := Try.underlying95
  a53 := Try.isAgg95
  z53 := Try.sizeOf95
  v53 := Try.zeroValue95
  t131 := Try.underlying28
  a131 := Try.isAgg28
  z131 := Try.sizeOf28
  v131 := Try.zeroValue28
  t182 := Try.underlying85
  a182 := Try.isAgg85
  z182 := Try.sizeOf85
  v182 := Try.zeroValue85
  t183 := Try.underlying86
  a183 := Try.isAgg86
  z183 := Try.sizeOf86
  v183 := Try.zeroValue86
  t218 := Try.underlying97
  a218 := Try.isAgg97
  z218 := Try.sizeOf97
  v218 := Try.zeroValue97
  t222 := Try.underlying101
  a222 := Try.isAgg101
  z222 := Try.sizeOf101
  v222 := Try.zeroValue101
  t228 := Try.underlying106
  a228 := Try.isAgg106
  z228 := Try.sizeOf106
  v228 := Try.zeroValue106
  t229 := Try.underlying107
  a229 := Try.isAgg107
  z229 := Try.sizeOf107
  v229 := Try.zeroValue107 }
open Go.Sort Go.RowKit in
theorem Try.slices_Sort_int (blk off cap : Nat) (zs : List Int) (w : World) (hH : Holds (Value.int .i64) w blk off zs.toArray) (hblk : blk < w.heap.size) (hsz : zs.length < 4611686018427387904) :
    Calls Try.prog 42 #[.slice (some ⟨blk, off, none⟩) zs.length cap] w fun e w' =>
      e = .returned (.tuple #[]) ∧ ∃ n os, w' = grow (putRow (Value.int .i64) (Sort.ahead w n) blk off (zs.mergeSort fun x y => decide (x ≤ y)).toArray) os := Any.slices_Sort_int Try.lays189 blk off cap zs w hH hblk hsz
def Try.laysNm220_ren : Go.Shelf.Ren := ⟨fun | 20 => 43 | n => n, fun | 22 => 37 | 3 => 3 | 4 => 4 | 0 => 0 | n => n, fun | n => n⟩
theorem Try.laysNm220 : Go.Proofs.Lays2.n20 Try.prog Try.laysNm220_ren := {
  mixed := by kernel_rfl
  f20 := Try.func43.trans (congrArg some (by kernel_rfl))
  t0 := Try.underlying0
  a0 := Try.isAgg0
  z0 := Try.sizeOf0
  v0 := Try.zeroValue0
  t3 := Try.underlying3
  a3 := Try.isAgg3
  z3 := Try.sizeOf3
  v3 := Try.zeroValue3
  t4 := Try.underlying4
  a4 := Try.isAgg4
  z4 := Try.sizeOf4
  v4 := Try.zeroValue4
  t22 := Try.underlying37
  a22 := Try.isAgg37
  z22 := Try.sizeOf37
  v22 := Try.zeroValue37
  i3 := by kernel_rfl }
open Go.RowKit Go.Lib Go.Sort in
/-- slices.Compact at []int, over an array: the library's two loops are walked. (LAID: no walk: one application.) -/
theorem Try.slices_Compact_int_arr (blk off cap : Nat) (d : Array Int) (w : World) (hH : Holds encI w blk off d) (hsz : d.size ≤ 9223372036854775807) (hcap : d.size ≤ cap) :
    Calls Try.prog 43 #[.slice (some ⟨blk, off, none⟩) d.size cap] w fun e w' => e = .returned (.slice (some ⟨blk, off, none⟩) (compactUpTo d d.size).length cap) ∧ ∃ q, w' = putRow encI (Sort.ahead w q) blk off (compactUpTo d d.size ++ List.replicate (d.size - (compactUpTo d d.size).length) 0).toArray := Any.slices_Compact_int_arr Try.laysNm220 blk off cap d w hH hsz hcap
open Go.RowKit Go.Lib Go.Sort in
/-- slices.Compact at []int: "Compact replaces consecutive runs of equal elements with a single copy. This is like the uniq command found on Unix. Compact modifies the contents of the slice s and returns the modified slice, which may have a smaller length. Compact zeroes the elements between the new length and the original length. The result preserves the nilness of s.": IT RETURNS THE SLICE CUT TO 'Lib.compact zs'; ITS CELLS HOLD 'Lib.compact zs', THEN ZERO VALUES up to the old length; all else is as it was, but for the count of draws. IN THE WORDS OF slices.Sort's CONTRACT ('Holds', 'putRow'): so the everyday 'slices.Sort(xs); xs = slices.Compact(xs)' goes from the one contract to the other. It asks 'zs.length ≤ cap' (every slice's: the reslicing 's[:k]' looks at it). Length 0, nil: '.._empty'. (LAID: no walk: one application.) -/
theorem Try.slices_Compact_int (blk off cap : Nat) (zs : List Int) (w : World) (hH : Holds (Value.int .i64) w blk off zs.toArray) (hsz : zs.length ≤ 9223372036854775807) (hcap : zs.length ≤ cap) :
    Calls Try.prog 43 #[.slice (some ⟨blk, off, none⟩) zs.length cap] w fun e w' => e = .returned (.slice (some ⟨blk, off, none⟩) (Lib.compact zs).length cap) ∧ ∃ q, w' = putRow (Value.int .i64) (Sort.ahead w q) blk off (Lib.compact zs ++ List.replicate (zs.length - (Lib.compact zs).length) 0).toArray := Any.slices_Compact_int Try.laysNm220 blk off cap zs w hH hsz hcap
open Go.RowKit Go.Lib Go.Sort in
/-- The same at a slice of length 0, a nil one too: it comes back as it is. (LAID: no walk: one application.) -/
theorem Try.slices_Compact_int_empty (a : Option Addr) (cap : Nat) (w : World) :
    Calls Try.prog 43 #[.slice a 0 cap] w fun e w' => e = .returned (.slice a 0 cap) ∧ w' = w := Any.slices_Compact_int_empty Try.laysNm220 a cap w
def Try.laysNm237_ren : Go.Shelf.Ren := ⟨fun | 37 => 87 | n => n, fun | 3 => 3 | 4 => 4 | n => n, fun | n => n⟩
theorem Try.laysNm237 : Go.Proofs.Lays2.n37 Try.prog Try.laysNm237_ren := {
  mixed := by kernel_rfl
  f37 := Try.func87.trans (congrArg some (by kernel_rfl))
  t3 := Try.underlying3
  a3 := Try.isAgg3
  z3 := Try.sizeOf3
  v3 := Try.zeroValue3
  t4 := Try.underlying4
  a4 := Try.isAgg4
  z4 := Try.sizeOf4
  v4 := Try.zeroValue4 }
open Go.RowKit Go.Lib in
/-- cmp.isNaN[int]: 'x != x': false. (LAID: no walk: one application.) -/
theorem Try.cmp_isNaN_int2 (x : Int) (w : World) :
    Calls Try.prog 87 #[.int .i64 x] w fun e w' => e = .returned (.bool false) ∧ w' = w := Any.cmp_isNaN_int2 Try.laysNm237 x w
def Try.laysNm231_ren : Go.Shelf.Ren := ⟨fun | 31 => 72 | 37 => 87 | n => n, fun | 3 => 3 | 4 => 4 | n => n, fun | n => n⟩
theorem Try.laysNm231 : Go.Proofs.Lays2.n31 Try.prog Try.laysNm231_ren := {
  mixed := by kernel_rfl
  f31 := Try.func72.trans (congrArg some (by kernel_rfl))
  f37 := Try.func87.trans (congrArg some (by kernel_rfl))
  t3 := Try.underlying3
  a3 := Try.isAgg3
  z3 := Try.sizeOf3
  v3 := Try.zeroValue3
  t4 := Try.underlying4
  a4 := Try.isAgg4
  z4 := Try.sizeOf4
  v4 := Try.zeroValue4 }
open Go.RowKit Go.Lib in
/-- cmp.Less[int]: "Less reports whether x is less than y.": 'x < y'; the world is as it was. (LAID: no walk: one application.) -/
theorem Try.cmp_Less_int2 (x y : Int) (w : World) :
    Calls Try.prog 72 #[.int .i64 x, .int .i64 y] w fun e w' => e = .returned (.bool (decide (x < y))) ∧ w' = w := Any.cmp_Less_int2 Try.laysNm231 x y w
open Go.RowKit Go.Lib Go.Sort in
/-- slices.Compact at []int, of an argument: the slice cut to 'Lib.compact (elements)'; the n cells hold that, then zeros. (LAID: no walk: one application.) -/
theorem Try.slices_Compact_int_cells (b off n c : Nat) (zs : List Int) (w : World) (hz : n ≤ zs.length) (hbig : n ≤ 9223372036854775807) (hcap : n ≤ c) (hc : ∀ j, j < zs.length → w.cell? ⟨b, off + j, none⟩ = some (.int .i64 (zs.getD j 0))) (hf : ∀ j, j < n → w.frozen? ⟨b, off + j, none⟩ = false) :
    Calls Try.prog 43 #[.slice (some ⟨b, off, none⟩) n c] w fun e w' => e = .returned (.slice (some ⟨b, off, none⟩) (Lib.compact (zs.take n)).length c) ∧ ∃ q, w' = (w.drewN q).setCells b off ((Lib.compact (zs.take n) ++ List.replicate (n - (Lib.compact (zs.take n)).length) 0).map (Value.int .i64)) := Any.slices_Compact_int_cells Try.laysNm220 b off n c zs w hz hbig hcap hc hf
open Go.RowKit Go.Sort in
/-- .. and plain. (LAID: no walk: one application.) -/
theorem Try.slices_Sort_int_none (p : Option Addr) (cap : Nat) (w : World) :
    Calls Try.prog 42 #[.slice p 0 cap] w fun e w' => e = .returned (.tuple #[]) ∧ w' = w := Any.slices_Sort_int_none Try.lays189 p cap w
end Go.Proofs
/- The walks of package plan: which aisles a way goes through. -/
namespace Go.Proofs.Ytddlgnfghecncaa
open Go.RowKit Go.Sort

/-! ### Mathematics -/
theorem putR_rise (n : Int) : ∀ (l : List Int) (d : Bool), l.Pairwise (· < ·) → (putR n l d).Pairwise (· < ·)
  | [], d, _ => by cases d <;> simp [putR]
  | x :: l, d, h => by
    rw [List.pairwise_cons] at h
    have ih := putR_rise n l (d || decide (n ≤ x)) h.2
    have hm := fun m => putR_mem n l (d || decide (n ≤ x)) m
    unfold putR
    generalize putR n l (d || decide (n ≤ x)) = R at *
    by_cases h1 : d = false ∧ n ≤ x
    · obtain ⟨rfl, h1⟩ := h1
      have hR : ∀ m ∈ R, x < m := by
        intro m hmR
        rcases (hm m).1 hmR with ⟨h2, _⟩ | ⟨h2, _⟩
        · simp [h1] at h2
        · exact h.1 m h2
      rw [if_pos ⟨rfl, h1⟩]
      by_cases h3 : x = n
      · rw [if_neg (by simp [h3])]
        subst h3
        simp only [List.nil_append, List.append_nil, List.singleton_append, List.pairwise_cons]
        exact ⟨hR, ih⟩
      · rw [if_pos h3]
        simp only [List.cons_append, List.nil_append, List.pairwise_cons, List.mem_cons]
        refine ⟨fun m hmm => ?_, hR, ih⟩
        rcases hmm with rfl | hmm
        · omega
        · have := hR m hmm; omega
    · rw [if_neg h1]
      by_cases h3 : x = n
      · rw [if_neg (by simp [h3])]
        simpa using ih
      · rw [if_pos h3]
        simp only [List.cons_append, List.nil_append, List.pairwise_cons]
        refine ⟨fun m hmR => ?_, ih⟩
        rcases (hm m).1 hmR with ⟨h2, rfl⟩ | ⟨h2, _⟩
        · simp at h2
          omega
        · exact h.1 m h2
theorem crs7_rise (hit : Ais → Bool) (l : List Ais) : (crs7 hit l).Pairwise (· < ·) := by
  unfold crs7
  have key : ∀ (l : List Ais) (out : List Int), out.Pairwise (· < ·) → (l.foldl (fun out a => if hit a = true then putR a.id out false else out) out).Pairwise (· < ·) := by
    intro l
    induction l with
    | nil => intro out h; exact h
    | cons a l ih =>
      intro out h
      rw [List.foldl_cons]
      refine ih _ ?_
      split
      · exact putR_rise _ _ _ h
      · exact h
  exact key l [] List.Pairwise.nil
/-- the IDs of those that are hit -/
def hids (hit : Ais → Bool) (l : List Ais) : List Int := (l.filter hit).map Ais.id
theorem crs7_sorted (hit : Ais → Bool) (l : List Ais) : Lib.compact ((hids hit l).mergeSort fun x y => decide (x ≤ y)) = crs7 hit l := by
  refine rise_ext (compact_rise (sorted_ms _)) (crs7_rise hit l) fun m => ?_
  rw [compact_mem, List.mem_mergeSort, crs7_mem]
  unfold hids
  rw [List.mem_map]
  constructor
  · rintro ⟨a, h1, h2⟩
    rw [List.mem_filter] at h1
    exact ⟨a, h1.1, h1.2, h2⟩
  · rintro ⟨a, h1, h2, h3⟩
    exact ⟨a, List.mem_filter.2 ⟨h1, h2⟩, h3⟩
theorem hids_next (hit : Ais → Bool) (l : List Ais) (k : Nat) (h : k < l.length) : hids hit (l.take (k + 1)) = hids hit (l.take k) ++ (if hit (pa l k) = true then [(pa l k).id] else []) := by
  unfold hids
  rw [List.take_succ_eq_append_getElem h, List.filter_append, List.map_append, pa_get l k h]
  congr 1
  by_cases hh : hit l[k] = true <;> simp [hh]
theorem hids_len (hit : Ais → Bool) (l : List Ais) (k : Nat) : (hids hit (l.take k)).length ≤ l.length := by
  unfold hids
  rw [List.length_map]
  exact Nat.le_trans (List.length_filter_le _ _) (by simp; omega)
theorem meet_ex (a b : Ais) : meetB a b = true ↔ ∃ x y, hasB a x y = true ∧ hasB b x y = true := by
  rw [meet_is, decide_eq_true_eq]
  constructor
  · intro h
    refine ⟨max a.lx b.lx, max a.ly b.ly, ?_, ?_⟩ <;> unfold hasB <;> rw [decide_eq_true_eq] <;> omega
  · rintro ⟨x, y, h1, h2⟩
    unfold hasB at h1 h2
    rw [decide_eq_true_eq] at h1 h2
    omega
/-- the block between two corners -/
def blk (a b : Int × Int) : Ais := ⟨0, min a.1 b.1, min a.2 b.2, max a.1 b.1, max a.2 b.2⟩
theorem hit_is (a b : Int × Int) (how : Int) (A : Ais) : hitB (rway a b how) A = (meetB A (blk a (trn how a b)) || meetB A (blk (trn how a b) b)) := by
  rw [Bool.eq_iff_iff, Bool.or_eq_true, meet_ex, meet_ex]
  unfold hitB
  rw [List.any_eq_true]
  obtain ⟨a1, a2⟩ := a
  obtain ⟨b1, b2⟩ := b
  by_cases hh : how = 1
  · subst hh
    simp only [mem_y, onY, btw, trn, if_pos, blk]
    constructor
    · rintro ⟨⟨x, y⟩, h1 | h1, h2⟩
      · exact .inl ⟨x, y, h2, by unfold hasB; rw [decide_eq_true_eq]; simp only at *; omega⟩
      · exact .inr ⟨x, y, h2, by unfold hasB; rw [decide_eq_true_eq]; simp only at *; omega⟩
    · rintro (⟨x, y, h1, h2⟩ | ⟨x, y, h1, h2⟩)
      · refine ⟨(x, y), .inl ?_, h1⟩
        unfold hasB at h2
        rw [decide_eq_true_eq] at h2
        simp only at *
        omega
      · refine ⟨(x, y), .inr ?_, h1⟩
        unfold hasB at h2
        rw [decide_eq_true_eq] at h2
        simp only at *
        omega
  · simp only [mem_x hh, onX, btw, trn, if_neg hh, blk]
    constructor
    · rintro ⟨⟨x, y⟩, h1 | h1, h2⟩
      · exact .inl ⟨x, y, h2, by unfold hasB; rw [decide_eq_true_eq]; simp only at *; omega⟩
      · exact .inr ⟨x, y, h2, by unfold hasB; rw [decide_eq_true_eq]; simp only at *; omega⟩
    · rintro (⟨x, y, h1, h2⟩ | ⟨x, y, h1, h2⟩)
      · refine ⟨(x, y), .inl ?_, h1⟩
        unfold hasB at h2
        rw [decide_eq_true_eq] at h2
        simp only at *
        omega
      · refine ⟨(x, y), .inr ?_, h1⟩
        unfold hasB at h2
        rw [decide_eq_true_eq] at h2
        simp only at *
        omega

/-! ### Sorted, and each once -/
theorem psort_any (a w : World) (B : Nat) (v : Value) (l : List Int) (hB : Below B a w) (hz : B ≤ w.heap.size) (h : OwnI w B v l) (hl : l.length ≤ 1000000) :
    Calls Try.prog 42 #[v] w fun e w' => e = .returned (.tuple #[]) ∧
      Calls Try.prog 43 #[v] w' fun e w'' => ∃ u, e = .returned u ∧ IntsAt w'' u (Lib.compact (l.mergeSort fun x y => decide (x ≤ y))) ∧ Below B a w'' := by
  by_cases h0 : l.length = 0
  · obtain ⟨p, c, rfl⟩ := h.ints.form
    have hnil : l = [] := List.eq_nil_of_length_eq_zero h0
    have hc : Lib.compact (l.mergeSort fun x y => decide (x ≤ y)) = [] := List.eq_nil_of_length_eq_zero (by have h1 := Lib.compact_length_le (l.mergeSort fun x y => decide (x ≤ y)); rw [List.length_mergeSort] at h1; omega)
    rw [h0, hc]
    refine (Try.slices_Sort_int_none p c w).mono ?_
    rintro e w1 ⟨rfl, rfl⟩
    refine ⟨rfl, (Try.slices_Compact_int_empty p c w1).mono ?_⟩
    rintro e w2 ⟨rfl, rfl⟩
    refine ⟨_, rfl, ?_, hB⟩
    have := h.ints
    rw [hnil] at this
    exact this
  · obtain ⟨g, cap, rfl, hBg, hg, hcap, hH⟩ := h.holds (by omega)
    have hlen : (l.mergeSort fun x y => decide (x ≤ y)).length = l.length := List.length_mergeSort l
    refine (Try.slices_Sort_int g 0 cap l w hH hg (by omega)).mono ?_
    rintro e w1 ⟨rfl, n, os, rfl⟩
    refine ⟨rfl, ?_⟩
    have hS := holds_sorted (n := n) (os := os) hH hg
    have hC := Try.slices_Compact_int g 0 cap (l.mergeSort fun x y => decide (x ≤ y)) _ hS (by omega) (by omega)
    have hI := fun q => ints_compact (n := n) (q := q) (os := os) hH hg hcap
    have hB1 := below_row (n := n) (off := 0) (d := (l.mergeSort fun x y => decide (x ≤ y)).toArray) (os := os) hB hBg hz
    rw [hlen] at hC
    refine hC.mono ?_
    rintro e w2 ⟨rfl, q, rfl⟩
    refine ⟨_, rfl, ?_, below_row' hB1 hBg (by have := hB1.size; simp; omega)⟩
    have := hI q
    rw [hlen] at this
    exact this

set_option maxHeartbeats 4000000 in
set_option maxRecDepth 100000 in
theorem pCross_any (va : Value) (l : List Ais) (x1 y1 x2 y2 how : Int) (w : World) (ha : AisAt w va l) (hl : l.length ≤ 100000) :
    Calls Try.prog 19 #[va, .agg #[.int .i64 x1, .int .i64 y1], .agg #[.int .i64 x2, .int .i64 y2], .int .i64 how] w fun e w' => ∃ v, e = .returned v ∧ IntsAt w' v (crs7 (hitB (rway (wd x1, wd y1) (wd x2, wd y2) how)) l) ∧ RowKit.Below w.heap.size w w' := by
  obtain ⟨i0, hi, hz0, hz1, hz2⟩ := info_parts info_int
  have HA := Lib.hid ha
  obtain ⟨a, c, rfl⟩ := RowsAt.form ha
  clear ha
  have n1 := fun w => pnumber_any x1 y1 w
  have n2 := fun w => pnumber_any x2 y2 w
  have b1 := wd_bd x1
  have b2 := wd_bd y1
  have b3 := wd_bd x2
  have b4 := wd_bd y2
  generalize wd x1 = a1 at *
  generalize wd y1 = a2 at *
  generalize wd x2 = u1 at *
  generalize wd y2 = u2 at *
  have ba : (-1000 ≤ a1 ∧ a1 ≤ 1000) ∧ -1000 ≤ a2 ∧ a2 ≤ 1000 := ⟨b1, b2⟩
  have bb : (-1000 ≤ u1 ∧ u1 ≤ 1000) ∧ -1000 ≤ u2 ∧ u2 ≤ 1000 := ⟨b3, b4⟩
  obtain ⟨C1, C2, c1, c2, htrn, hc1, hc2, bc, _, _, hbt⟩ := corner_is a1 a2 u1 u2 how ba bb
  have hit := hit_is (a1, a2) (u1, u2) how
  rw [htrn] at hit
  have hf1 : Fl (fl a1) a1 := fl_small (by omega)
  have hf2 : Fl (fl a2) a2 := fl_small (by omega)
  have hf3 : Fl (fl u1) u1 := fl_small (by omega)
  have hf4 : Fl (fl u2) u2 := fl_small (by omega)
  have hp1 := fun w => ppoint_any _ _ a1 a2 hf1 hf2 (by omega) (by omega) w
  have hp2 := fun w => ppoint_any _ _ c1 c2 hc1 hc2 (by omega) (by omega) w
  have hp3 := fun w => ppoint_any _ _ u1 u2 hf3 hf4 (by omega) (by omega) w
  have hk1 := fun w => pblock_any a1 a2 c1 c2 w
  have hk2 := fun w => pblock_any c1 c2 u1 u2 w
  have hX : blk (a1, a2) (c1, c2) = ⟨0, min a1 c1, min a2 c2, max a1 c1, max a2 c2⟩ := rfl
  have hY : blk (c1, c2) (u1, u2) = ⟨0, min c1 u1, min c2 u2, max c1 u1, max c2 u2⟩ := rfl
  generalize rway (a1, a2) (u1, u2) how = W at *
  generalize fl a1 = A1 at *
  generalize fl a2 = A2 at *
  generalize fl u1 = U1 at *
  generalize fl u2 = U2 at *
  obtain ⟨m1, h1⟩ : ∃ m, min a1 c1 = m := ⟨_, rfl⟩
  obtain ⟨m2, h2⟩ : ∃ m, min a2 c2 = m := ⟨_, rfl⟩
  obtain ⟨m3, h3⟩ : ∃ m, max a1 c1 = m := ⟨_, rfl⟩
  obtain ⟨m4, h4⟩ : ∃ m, max a2 c2 = m := ⟨_, rfl⟩
  rw [h1, h2, h3, h4] at hk1 hX
  clear h1 h2 h3 h4
  obtain ⟨k1, h1⟩ : ∃ m, min c1 u1 = m := ⟨_, rfl⟩
  obtain ⟨k2, h2⟩ : ∃ m, min c2 u2 = m := ⟨_, rfl⟩
  obtain ⟨k3, h3⟩ : ∃ m, max c1 u1 = m := ⟨_, rfl⟩
  obtain ⟨k4, h4⟩ : ∃ m, max c2 u2 = m := ⟨_, rfl⟩
  rw [h1, h2, h3, h4] at hk2 hY
  rw [hX, hY] at hit
  clear h1 h2 h3 h4 hX hY htrn hf1 hf2 hf3 hf4 ba bb bc b1 b2 b3 b4 hc1 hc2
  have N1 := Lib.hid n1
  have N2 := Lib.hid n2
  have HBT := Lib.hid hbt
  have HP1 := Lib.hid hp1
  have HP2 := Lib.hid hp2
  have HP3 := Lib.hid hp3
  have HK1 := Lib.hid hk1
  have HK2 := Lib.hid hk2
  have HIT := Lib.hid hit
  clear n1 n2 hbt hp1 hp2 hp3 hk1 hk2 hit
  have hB : RowKit.Below w.heap.size w ((w.alloc (.cells #[.int .i64 x1, .int .i64 y1] 24)).alloc (.cells #[.int .i64 x2, .int .i64 y2] 24)) := ((Below.refl _ _).alloc (Nat.le_refl _) _).alloc (by simp) _
  have C0 := (Cell2.new w (.int .i64 x1) (.int .i64 y1) 24).alloc (.cells #[.int .i64 x2, .int .i64 y2] 24)
  have D0 := Cell2.new (w.alloc (.cells #[.int .i64 x1, .int .i64 y1] 24)) (.int .i64 x2) (.int .i64 y2) 24
  simp only [World.size_alloc] at D0
  go_enter Try.func19, Try.ntmps19
  go_wp2
  refine wp_region_calm0 (by kernel_rfl) (by kernel_rfl) fun M => ?_
  have e0 := fun n : In M.w => n.cell (M.cell C0.c0)
  have e1 := fun n : In M.w => n.cell (M.cell C0.c1)
  have e2 := fun n : In M.w => n.cell (M.cell D0.c0)
  have e3 := fun n : In M.w => n.cell (M.cell D0.c1)
  repeat (go_big_quiet_step (first
    | (go_at_call 35; with_reducible exact In.call (N1.out _))
    | (go_at_call 35; with_reducible exact In.call (N2.out _))))
  refine wpQuiet_nil ?_
  intro w1 hb
  replace hB := hB.trans (hb.mono hB.size)
  clear e0 e1 e2 e3 M C0 D0 hb
  go_wp2_with (first
    | (go_at_call 38; (with_reducible refine (HBT.out _).mono ?_); rintro e w3 ⟨rfl, rfl⟩)
    | (go_at_call 36; (with_reducible refine (HP1.out _).mono ?_); rintro e w2 ⟨rfl, hb⟩; replace hB := hB.trans (hb.mono hB.size); clear hb HP1)
    | (go_at_call 29; (with_reducible refine (HK1.out _).mono ?_); rintro e w4 ⟨rfl, hb⟩; replace hB := hB.trans (hb.mono hB.size); have CX := Cell5.new w4 ⟨0, m1, m2, m3, m4⟩ 26; replace hB := hB.alloc hB.size (.cells #[.int .i64 0, .int .i64 m1, .int .i64 m2, .int .i64 m3, .int .i64 m4] 26); clear hb HK1)
    | (go_at_call 29; (with_reducible refine (HK2.out _).mono ?_); rintro e w6 ⟨rfl, hb⟩; replace hB := hB.trans (hb.mono hB.size); replace CX := (CX.kept hb).alloc (.cells #[.int .i64 0, .int .i64 k1, .int .i64 k2, .int .i64 k3, .int .i64 k4] 26); have CY := Cell5.new w6 ⟨0, k1, k2, k3, k4⟩ 26; replace hB := hB.alloc hB.size (.cells #[.int .i64 0, .int .i64 k1, .int .i64 k2, .int .i64 k3, .int .i64 k4] 26); clear hb HK2)
    | (go_at_call 36; (with_reducible refine (HP2.out _).mono ?_); rintro e w5 ⟨rfl, hb⟩; replace hB := hB.trans (hb.mono hB.size); (try replace CX := CX.kept hb); clear hb)
    | (go_at_call 36; (with_reducible refine (HP3.out _).mono ?_); rintro e w7 ⟨rfl, hb⟩; replace hB := hB.trans (hb.mono hB.size); replace CX := CX.kept hb; clear hb HP3))
  generalize (w6.alloc (.cells #[.int .i64 0, .int .i64 k1, .int .i64 k2, .int .i64 k3, .int .i64 k4] 26)) = wl at *
  have HCX := Lib.hid CX
  have HCY := Lib.hid CY
  have HB0 := Lib.hid hB
  have ltx := World.block_lt_of_cell? _ _ CX.c0
  have lty := World.block_lt_of_cell? _ _ CY.c0
  clear CX CY hB
  go_loopw [14, 16, 37] (fun v _ i wr => ∃ k : Nat, k ≤ l.length ∧ i = .int .i64 k ∧ OwnI wr wl.heap.size v (hids (hitB W) (l.take k)) ∧ RowKit.Below wl.heap.size wl wr) (fun _ _ i _ => l.length - (intOf i).toNat)
  case atStart => exact ⟨0, Nat.zero_le _, rfl, OwnR.nil _ _ _ _ _, Below.refl _ _⟩
  case round =>
    obtain ⟨k, hk, rfl, hown, hB⟩ := hrel
    have HB := Lib.hid (HB0.out.trans (hB.mono HB0.out.size))
    by_cases hlt : k < l.length
    · have HAR := Lib.hid (HA.out.kept HB.out)
      obtain ⟨g, o, c', i, e1, e2, f1, f2, hlk, ev, hc, hg, p0, p1, p2, p3, p4⟩ := AisAt.at HAR.out k hlt
      cases ev
      have hnx := hids_next (hitB W) l k hlt
      have hit := HIT.out ⟨i, e1, e2, f1, f2⟩
      rw [hlk, hit] at hnx
      have hm1 := fun w => pMeet_any ⟨i, e1, e2, f1, f2⟩ ⟨0, m1, m2, m3, m4⟩ w
      have hm2 := fun w => pMeet_any ⟨i, e1, e2, f1, f2⟩ ⟨0, k1, k2, k3, k4⟩ w
      generalize meetB ⟨i, e1, e2, f1, f2⟩ ⟨0, m1, m2, m3, m4⟩ = t1 at *
      generalize meetB ⟨i, e1, e2, f1, f2⟩ ⟨0, k1, k2, k3, k4⟩ = t2 at *
      simp only at hm1 hm2 hnx
      have HM1 := Lib.hid hm1
      have HM2 := Lib.hid hm2
      have HNX := Lib.hid hnx
      have hzr : wl.heap.size ≤ wr.heap.size := hB.size
      have hBa := hB.alloc hzr (.cells #[.int .i64 i, .int .i64 e1, .int .i64 e2, .int .i64 f1, .int .i64 f2] 26)
      have hOa := hown.alloc (.cells #[.int .i64 i, .int .i64 e1, .int .i64 e2, .int .i64 f1, .int .i64 f2] 26)
      have hDa := Cell5.new wr ⟨i, e1, e2, f1, f2⟩ 26
      have CX := (HCX.out.below hBa ltx)
      have CY := (HCY.out.below hBa lty)
      have hlen := hids_len (hitB W) l k
      have j0 : (0 : Int) ≤ (k : Int) := by omega
      have j1 : (k : Int) < (l.length : Int) := by omega
      have HO := Lib.hid hOa
      have HD := Lib.hid hDa
      have HYY := Lib.hid CY
      obtain ⟨x0, x1', x2', x3', x4'⟩ := CX
      simp only at x0 x1' x2' x3' x4'
      obtain ⟨y0, y1', y2', y3', y4'⟩ := CY
      simp only at y0 y1' y2' y3' y4'
      clear hm1 hm2 hnx hit hlk hown hOa hDa
      cases t1
      · cases t2
        · go_wp2_with (first
            | (go_at_call 13; (with_reducible refine (HM1.out _).mono ?_); rintro e w8 ⟨rfl, hb⟩; have hB8 := hBa.trans (hb.mono hBa.size); have HO8 := Lib.hid (HO.out.kept hb); obtain ⟨d0, d1, d2, d3, d4⟩ := HD.out.kept hb; obtain ⟨g0, g1, g2, g3, g4⟩ := HYY.out.kept hb; simp only at d0 d1 d2 d3 d4 g0 g1 g2 g3 g4; clear x0 x1' x2' x3' x4' y0 y1' y2' y3' y4' hb HM1)
            | (go_at_call 13; (with_reducible refine (HM2.out _).mono ?_); rintro e w9 ⟨rfl, hb⟩; have hB9 := hB8.trans (hb.mono hB8.size); have HO9 := Lib.hid (HO8.out.kept hb); clear hb d0 d1 d2 d3 d4 g0 g1 g2 g3 g4 HM2))
          go_roundw
          case rel => exact ⟨k + 1, by omega, by go_num, by rw [HNX.out]; simpa using HO9.out, hB9⟩
          case measure => simp [intOf]; omega
        · go_wp2_with (first
            | (go_at_call 13; (with_reducible refine (HM1.out _).mono ?_); rintro e w8 ⟨rfl, hb⟩; have hB8 := hBa.trans (hb.mono hBa.size); have HO8 := Lib.hid (HO.out.kept hb); obtain ⟨d0, d1, d2, d3, d4⟩ := HD.out.kept hb; have HD8 := Lib.hid (HD.out.kept hb); obtain ⟨g0, g1, g2, g3, g4⟩ := HYY.out.kept hb; simp only at d0 d1 d2 d3 d4 g0 g1 g2 g3 g4; clear x0 x1' x2' x3' x4' y0 y1' y2' y3' y4' hb HM1)
            | (go_at_call 13; (with_reducible refine (HM2.out _).mono ?_); rintro e w9 ⟨rfl, hb⟩; have hB9 := hB8.trans (hb.mono hB8.size); have HO9 := Lib.hid (HO8.out.kept hb); clear d0 d1 d2 d3 d4 g0 g1 g2 g3 g4; obtain ⟨d0, _, _, _, _⟩ := HD8.out.kept hb; simp only at d0; clear hb HM2; have ho := HO9.out.alloc (.cells #[.int .i64 i] 3); have hBo := hB9.alloc hB9.size (.cells #[.int .i64 i] 3); have hsz : wl.heap.size ≤ (w9.alloc (.cells #[.int .i64 i] 3)).heap.size := hBo.size; have hH : (w9.alloc (.cells #[.int .i64 i] 3)).heap[w9.heap.size]? = some (.cells #[.int .i64 i] 3) := Array.getElem?_push_size)
            | (at_builtin; refine wpList_append_own _ rfl _ _ 37 rfl wl.heap.size 3 i0 (.int .i64 0) 1 8 Try.underlying37 hi hz0 hz1 hz2 rfl (by decide) _ _ _ rfl ho ⟨w9.heap.size, 0, none⟩ 1 1 [.int .i64 i] rfl rfl (World.news_of_block (cs := #[.int .i64 i]) hH) (by intro u hu; simp at hu; rcases hu with rfl; rfl) (by unfold maxLen; omega) (by omega) hsz ?_))
          intro v' wz h1 h2 _
          have oz : OwnI wz wl.heap.size v' (hids (hitB W) (l.take (k + 1))) := by
            rw [HNX.out]
            exact OwnR.snoc h1 (by simp) rfl
          have hBz : RowKit.Below wl.heap.size wl wz := OwnR.below ho hBo hsz h2
          have HOZ := Lib.hid oz
          clear h1 h2 ho hH oz hBo hsz
          go_wp2
          go_roundw
          case rel => exact ⟨k + 1, by omega, by go_num, HOZ.out, hBz⟩
          case measure => simp [intOf]; omega
      · go_wp2_with (first
          | (go_at_call 13; (with_reducible refine (HM1.out _).mono ?_); rintro e w8 ⟨rfl, hb⟩; have hB8 := hBa.trans (hb.mono hBa.size); have HO8 := Lib.hid (HO.out.kept hb); obtain ⟨d0, d1, d2, d3, d4⟩ := HD.out.kept hb; have HD8 := Lib.hid (HD.out.kept hb); obtain ⟨g0, g1, g2, g3, g4⟩ := HYY.out.kept hb; simp only at d0 d1 d2 d3 d4 g0 g1 g2 g3 g4; clear d1 d2 d3 d4 g0 g1 g2 g3 g4 x0 x1' x2' x3' x4' y0 y1' y2' y3' y4' hb HM1; have ho := HO8.out.alloc (.cells #[.int .i64 i] 3); have hBo := hB8.alloc hB8.size (.cells #[.int .i64 i] 3); have hsz : wl.heap.size ≤ (w8.alloc (.cells #[.int .i64 i] 3)).heap.size := hBo.size; have hH : (w8.alloc (.cells #[.int .i64 i] 3)).heap[w8.heap.size]? = some (.cells #[.int .i64 i] 3) := Array.getElem?_push_size)
          | (at_builtin; refine wpList_append_own _ rfl _ _ 37 rfl wl.heap.size 3 i0 (.int .i64 0) 1 8 Try.underlying37 hi hz0 hz1 hz2 rfl (by decide) _ _ _ rfl ho ⟨w8.heap.size, 0, none⟩ 1 1 [.int .i64 i] rfl rfl (World.news_of_block (cs := #[.int .i64 i]) hH) (by intro u hu; simp at hu; rcases hu with rfl; rfl) (by unfold maxLen; omega) (by omega) hsz ?_))
        intro v' wz h1 h2 _
        have oz : OwnI wz wl.heap.size v' (hids (hitB W) (l.take (k + 1))) := by
          rw [HNX.out]
          exact OwnR.snoc h1 (by simp) rfl
        have hBz : RowKit.Below wl.heap.size wl wz := OwnR.below ho hBo hsz h2
        have HOZ := Lib.hid oz
        clear h1 h2 ho hH oz hBo hsz
        go_wp2
        go_roundw
        case rel => exact ⟨k + 1, by omega, by go_num, HOZ.out, hBz⟩
        case measure => simp [intOf]; omega
    · have hk2 : k = l.length := by omega
      rw [hk2, List.take_length] at hown
      have hlen := hids_len (hitB W) l l.length
      rw [List.take_length] at hlen
      have hso := psort_any wl wr wl.heap.size _ _ hB hB.size hown (by omega)
      rw [crs7_sorted] at hso
      have HSO := Lib.hid hso
      rw [hk2]
      clear hk hk2 hown hso hlt hlen
      go_wp2_with (first
        | (go_at_call 42; (with_reducible refine HSO.out.mono ?_); rintro e w8 ⟨rfl, hco⟩; have HCO := Lib.hid hco; clear hco HSO)
        | (go_at_call 43; (with_reducible refine HCO.out.mono ?_); rintro e w9 ⟨v, rfl, hi9, hb9⟩; have HI9 := Lib.hid hi9; clear hi9 HCO))
      go_ret
      exact ⟨_, rfl, HI9.out, HB0.out.trans (hb9.mono HB0.out.size)⟩
end Go.Proofs.Ytddlgnfghecncaa
