/- The law FenceTurns. -/
import Derived.Test.YthndmoipemnllaaFenceAlive
import Derived.Test.YthndmoipemnllaaFenceFit
import Derived.Test.YthndmoipemnllaaWalkRefR
import Derived.Deep.DeepCutAuto
namespace Go.Proofs.Ythndmoipemnllaa
open Go.RowKit
attribute [local go_sem high] field_x field_y

theorem rev_take_next (l : List (Int × Int)) (k : Nat) (h : k < l.length) : l.reverse.take (k + 1) = l.reverse.take k ++ [pat l (l.length - 1 - k)] := by
  rw [List.take_add_one, List.getElem?_reverse h, pat_get l _ (by omega)]
  rfl

set_option maxHeartbeats 4000000 in
set_option maxRecDepth 100000 in
theorem fenceTurns_any (va : Value) (l : List (Int × Int)) (n x y px py : Int) (w : World) (ha : PairsAt w va l) (hl : l.length ≤ 9223372036854775807) (hpx : -9223372036854775808 ≤ px ∧ px ≤ 9223372036854775807) (hpy : -9223372036854775808 ≤ py ∧ py ≤ 9223372036854775807) :
    Calls Try.prog 6 #[va, .agg #[.int .i64 n, .int .i64 x, .int .i64 y], .agg #[.int .i64 px, .int .i64 py]] w fun e w' => e = .returned (.bool true) ∧ Below w.heap.size w w' := by
  obtain ⟨i0, hi, hz0, hz1, hz2⟩ := info_parts info_point
  have hal := fun w => fAlive_any w
  have HAL := Lib.hid hal
  clear hal
  have HA := Lib.hid ha
  have hform : ∃ a c, va = .slice a l.length c := by obtain ⟨a, c, e, _⟩ := ha; exact ⟨a, c, e⟩
  obtain ⟨a, c, rfl⟩ := hform
  clear ha
  have hB : Below w.heap.size w ((w.alloc (.cells #[.int .i64 n, .int .i64 x, .int .i64 y] 25)).alloc (.cells #[.int .i64 px, .int .i64 py] 23)) := ((Below.refl _ _).alloc (Nat.le_refl _) _).alloc (by simp) _
  by_cases h1 : 300 < l.length
  · go_enter Try.func6, Try.ntmps6
    go_wp2_with (go_at_call 7; refine (HAL.out _).mono ?_; rintro e w1 ⟨rfl, hb⟩; replace hB := hB.trans (hb.mono hB.size); clear hb)
    go_ret
    exact ⟨rfl, hB⟩
  have gr := fun w ha => fRight_any (.slice a l.length c) l w ha (by omega)
  have gs := fun w ha => refRight_any (.slice a l.length c) l w ha (by omega)
  obtain ⟨b, hb⟩ : ∃ b, rightB l = b := ⟨_, rfl⟩
  rw [hb] at gr gs
  have GR := Lib.hid gr
  have GS := Lib.hid gs
  clear gr gs
  cases b with
  | false =>
    clear hb
    go_enter Try.func6, Try.ntmps6
    go_wp2_with (first
      | (go_at_call 10; with_reducible refine (GR.out _ (HA.out.kept hB)).mono ?_; rintro e w1 ⟨rfl, hb⟩; replace hB := hB.trans (hb.mono hB.size); clear hb)
      | (go_at_call 7; refine (HAL.out _).mono ?_; rintro e w2 ⟨rfl, hb⟩; replace hB := hB.trans (hb.mono hB.size); clear hb))
    go_ret
    exact ⟨rfl, hB⟩
  | true =>
  have CM := (Cell3.new w (.int .i64 n) (.int .i64 x) (.int .i64 y) 25).alloc (.cells #[.int .i64 px, .int .i64 py] 23)
  have CP := Cell2.new (w.alloc (.cells #[.int .i64 n, .int .i64 x, .int .i64 y] 25)) (.int .i64 px) (.int .i64 py) 23
  simp only [World.size_alloc] at CP
  obtain ⟨v1, v2, v3⟩ := fen_rev hb
  have fb := fen_bd hb
  have kb := fcell_bd hb (px, py)
  have v3 := v3 (px, py)
  have HRB := Lib.hid hb
  obtain ⟨F, hF⟩ : ∃ F, fen l = F := ⟨_, rfl⟩
  obtain ⟨G, hG⟩ : ∃ G, fcell l (px, py) = G := ⟨_, rfl⟩
  rw [hF] at v2 fb
  rw [hG] at v3 kb
  have ga := fun w ha => fArea_any (.slice a l.length c) l w ha (by omega)
  rw [hF] at ga
  have gc := fun w ha => fCell_any (.slice a l.length c) l px py w ha (by omega) hpx hpy
  rw [hG] at gc
  have hrl : l.reverse.length ≤ 1000000 := by rw [List.length_reverse]; omega
  have ra := fun w va ha => fArea_any va l.reverse w ha hrl
  have rc := fun w va ha => fCell_any va l.reverse px py w ha hrl hpx hpy
  have rr := fun w va ha => fRight_any va l.reverse w ha hrl
  rw [v1] at rr
  rw [v2] at ra
  rw [v3] at rc
  have GA := Lib.hid ga
  have GC := Lib.hid gc
  have RA := Lib.hid ra
  have RC := Lib.hid rc
  have RR := Lib.hid rr
  have HF := Lib.hid hF
  have F0 : -1000000000000000000 ≤ F := fb.1
  have F1 : F ≤ 1000000000000000000 := fb.2
  have G0 : -256 ≤ G := kb.1
  have G1 : G ≤ 256 := kb.2
  clear ga gc ra rc rr v1 v2 v3 fb kb hF hG hb hrl
  go_enter Try.func6, Try.ntmps6
  go_wp2_with (first
    | (go_at_call 10; with_reducible refine (GR.out _ (HA.out.kept hB)).mono ?_; rintro e w1 ⟨rfl, hb⟩; replace hB := hB.trans (hb.mono hB.size); have CM1 := Lib.hid (CM.kept hb); have CP1 := Lib.hid (CP.kept hb); clear hb CM CP)
    | (go_at_call 11; with_reducible refine (GS.out _ (HA.out.kept hB)).mono ?_; rintro e w2 ⟨rfl, hb⟩; replace hB := hB.trans (hb.mono hB.size); have CM2 := Lib.hid (CM1.out.kept hb); have CP2 := Lib.hid (CP1.out.kept hb); clear hb CM1 CP1))
  have HBB := Lib.hid hB
  have hR0 : Below w2.heap.size w2 w2 := Below.refl _ _
  clear hB
  go_loopw [7, 8, 28] (fun v _ i wr => ∃ k : Nat, k ≤ l.length ∧ i = .int .i64 k ∧ OwnP wr w2.heap.size 23 v (l.reverse.take k) ∧ Below w2.heap.size w2 wr) (fun _ _ i _ => l.length - (intOf i).toNat)
  case atStart => exact ⟨0, Nat.zero_le _, rfl, OwnP.nil _ _ _, hR0⟩
  case round =>
    clear hR0
    obtain ⟨k, hk, rfl, hown, hB⟩ := hrel
    by_cases hlt : k < l.length
    · have HAR := Lib.hid (HA.out.kept (HBB.out.trans (hB.mono HBB.out.size)))
      obtain ⟨g, o, c', ev, hc, hg, p1, p2⟩ := HAR.out.spot (l.length - 1 - k) (by omega)
      cases ev
      have hm := rev_take_next l k hlt
      obtain ⟨⟨x1, y1⟩, hq⟩ : ∃ q, pat l (l.length - 1 - k) = q := ⟨_, rfl⟩
      rw [hq] at p1 p2 hm
      obtain ⟨j, hj⟩ : ∃ j : Nat, l.length - 1 - k = j := ⟨_, rfl⟩
      rw [hj] at p1 p2
      have hjj : (l.length : Int) - 1 - (k : Int) = (j : Int) := by omega
      have j0 : (0 : Int) ≤ (j : Int) := by omega
      have j1 : (j : Int) < (l.length : Int) := by omega
      have HM := Lib.hid hm
      have HO := Lib.hid hown
      clear hm hown hq hj
      simp only at p1 p2
      have hlen : (l.reverse.take k).length ≤ 1000000 := by simp; omega
      have hlk : (l.reverse.take k).length = k := by simp; omega
      have hB2 : Below w2.heap.size w2 (wr.alloc (.cells #[.int .i64 x1, .int .i64 y1] 23)) := hB.alloc hB.size _
      have hsz2 : w2.heap.size ≤ (wr.alloc (.cells #[.int .i64 x1, .int .i64 y1] 23)).heap.size := hB2.size
      have ho2 := HO.out.alloc (.cells #[.int .i64 x1, .int .i64 y1] 23)
      go_wp2_with (at_builtin; refine wpList_append_own _ rfl _ _ 26 rfl w2.heap.size 23 i0 (.agg #[.int .i64 0, .int .i64 0]) 2 16 Try.underlying26 hi hz0 hz1 hz2 rfl (by decide) _ _ _ rfl ho2 ⟨wr.heap.size, 0, none⟩ 1 1 [.int .i64 x1, .int .i64 y1] rfl rfl ?_ (by intro u hu; simp at hu; rcases hu with rfl | rfl <;> rfl) (by unfold maxLen; omega) (by omega) hsz2 ?_)
      · intro j' u hj'
        match j', hj' with
        | 0, hj' => simp at hj'; subst hj'; simp [Addr.add]
        | 1, hj' => simp at hj'; subst hj'; simp [Addr.add]
      intro v' w3 h1 h2 _
      have o3 : OwnP w3 w2.heap.size 23 v' (l.reverse.take (k + 1)) := by
        rw [HM.out]
        unfold OwnP
        rw [List.length_append, flat_append, hlk]
        exact h1
      have hB3 : Below w2.heap.size w2 w3 := HO.out.below hB2 hsz2 h2
      have HO3 := Lib.hid o3
      clear h1 h2 ho2 o3 hB2 hB
      go_wp2
      go_roundw
      case rel => exact ⟨k + 1, by omega, by go_num, HO3.out, hB3⟩
      case measure => simp [intOf]; omega
    · have hk2 : k = l.length := by omega
      rw [hk2, List.take_of_length_le (by simp)] at hown
      rw [hk2]
      have hB3 := HBB.out.trans (hB.mono HBB.out.size)
      have HPB := Lib.hid hown.pairs
      have HPA := Lib.hid (HA.out.kept hB3)
      have CM3 := Lib.hid (CM2.out.below hB (World.block_lt_of_cell? _ _ CM2.out.c0))
      have CP3 := CP2.out.below hB (World.block_lt_of_cell? _ _ CP2.out.c0)
      clear hk hk2 hown hB CM2 CP2 HBB hlt
      go_wp2
      refine wp_region_calm0 (by kernel_rfl) (by kernel_rfl) fun M => ?_
      have HQB := Lib.hid fun n : In M.w => (HPB.out.kept M.h).kept n.h
      have HQA := Lib.hid fun n : In M.w => (HPA.out.kept M.h).kept n.h
      have q1 := fun n : In M.w => n.cell (M.cell CP3.c0)
      have q2 := fun n : In M.w => n.cell (M.cell CP3.c1)
      repeat (go_big_quiet_step (first
        | (go_at_call 10; with_reducible exact In.call (RR.out _ _ (HQB.out _)))
        | (go_at_call 17; with_reducible exact In.call (RA.out _ _ (HQB.out _)))
        | (go_at_call 17; with_reducible exact In.call (GA.out _ (HQA.out _)))
        | (go_at_call 19; with_reducible exact In.call (RC.out _ _ (HQB.out _)))
        | (go_at_call 19; with_reducible exact In.call (GC.out _ (HQA.out _)))))
      refine wpQuiet_nil ?_
      intro w4 hb
      have hB4 := hB3.trans (hb.mono hB3.size)
      have HP4 := HPA.out.kept hb
      have CM4 := CM3.out.kept hb
      clear q1 q2 HQB HQA M hb hB3 HPA HPB CM3 CP3 RR RA RC
      have gb := fun w ha => refBox_any (.slice a l.length c) l w ha (by omega)
      obtain ⟨⟨a1, a2⟩, he1⟩ : ∃ q, blo l l.length = q := ⟨_, rfl⟩
      obtain ⟨⟨b1, b2⟩, he2⟩ : ∃ q, bhi l l.length = q := ⟨_, rfl⟩
      have hmv := fen_mov HRB.out n x y
      rw [he1, he2] at gb hmv
      simp only at gb hmv
      have s1 := fun w => refSmall_any a1 a2 500 w (by decide) (by decide)
      have s2 := fun w => refSmall_any b1 b2 500 w (by decide) (by decide)
      have s3 := fun w => refMSmall_any n x y 500 w (by decide) (by decide)
      have gm := fun w ha => fMove_any n x y (.slice a l.length c) l w ha (by omega)
      have hml : (l.map (rmv n x y)).length ≤ 1000000 := by simp; omega
      have mr := fun w va ha => fRight_any va (l.map (rmv n x y)) w ha hml
      have ma := fun w va ha => fArea_any va (l.map (rmv n x y)) w ha hml
      have GB := Lib.hid gb
      have GM := Lib.hid gm
      have MR := Lib.hid mr
      have MA := Lib.hid ma
      have HMV := Lib.hid hmv
      clear gb gm mr ma hmv he1 he2 hml
      obtain ⟨t1, ht1⟩ : ∃ t, smallB a1 a2 500 = t := ⟨_, rfl⟩
      obtain ⟨t2, ht2⟩ : ∃ t, smallB b1 b2 500 = t := ⟨_, rfl⟩
      obtain ⟨t3, ht3⟩ : ∃ t, smallB x y 500 = t := ⟨_, rfl⟩
      rw [ht1] at s1
      rw [ht2] at s2
      rw [ht3] at s3
      have HT1 := Lib.hid ht1
      have HT2 := Lib.hid ht2
      have HT3 := Lib.hid ht3
      have S1 := Lib.hid s1
      have S2 := Lib.hid s2
      have S3 := Lib.hid s3
      clear ht1 ht2 ht3 s1 s2 s3
      go_upto_region 12 with (go_at_call 9; with_reducible refine (GB.out _ HP4).mono ?_; rintro e w5 ⟨rfl, hb⟩; have hB5 := hB4.trans (hb.mono hB4.size); have HP5 := Lib.hid (HP4.kept hb); have CM5 := Lib.hid (CM4.kept hb); clear hb hB4 HP4 CM4)
      have hBe : Below w5.heap.size w5 ((w5.alloc (.cells #[.int .i64 a1, .int .i64 a2] 23)).alloc (.cells #[.int .i64 b1, .int .i64 b2] 23)) := ((Below.refl _ _).alloc (Nat.le_refl _) _).alloc (by simp) _
      have hB6 := hB5.trans (hBe.mono hB5.size)
      have HP6 := Lib.hid (HP5.out.kept hBe)
      have CM6 := Lib.hid (CM5.out.kept hBe)
      have CA6 := (Cell2.new w5 (.int .i64 a1) (.int .i64 a2) 23).alloc (.cells #[.int .i64 b1, .int .i64 b2] 23)
      have CB6 := Cell2.new (w5.alloc (.cells #[.int .i64 a1, .int .i64 a2] 23)) (.int .i64 b1) (.int .i64 b2) 23
      simp only [World.size_alloc] at CB6
      obtain ⟨N5, hN5⟩ : ∃ N, w5.heap.size = N := ⟨_, rfl⟩
      rw [hN5] at CA6 CB6
      try rw [hN5]
      clear hBe hB5 HP5 CM5 hN5
      generalize (w5.alloc (.cells #[.int .i64 a1, .int .i64 a2] 23)).alloc (.cells #[.int .i64 b1, .int .i64 b2] 23) = W6 at *
      have HB6 := Lib.hid CB6
      obtain ⟨ca0, ca1, _, _⟩ := CA6
      clear CB6
      have hfin : t1 = false ∨ (t1 = true ∧ t2 = false) ∨ (t1 = true ∧ t2 = true ∧ t3 = false) ∨ (t1 = true ∧ t2 = true ∧ t3 = true) := by cases t1 <;> cases t2 <;> cases t3 <;> simp
      rcases hfin with rfl | ⟨rfl, rfl⟩ | ⟨rfl, rfl, rfl⟩ | ⟨rfl, rfl, rfl⟩
      rotate_left 3
      · obtain ⟨hm1, hm2⟩ := HMV.out HT1.out HT2.out HT3.out
        have mr := MR.out
        have ma := MA.out
        rw [hm1] at mr
        rw [hm2, HF.out] at ma
        have MR := Lib.hid mr
        have MA := Lib.hid ma
        clear hm1 hm2 mr ma
        go_wp2_with (first
          | (go_at_call 21; with_reducible refine (S1.out _).mono ?_; rintro e u1 ⟨rfl, hb⟩; have hB7 := hB6.trans (hb.mono hB6.size); obtain ⟨cb0, cb1, _, _⟩ := HB6.out.kept hb; have CM7 := Lib.hid (CM6.out.kept hb); have HP7 := Lib.hid (HP6.out.kept hb); clear hb hB6 HB6 CM6 HP6 S1)
          | (go_at_call 21; with_reducible refine (S2.out _).mono ?_; rintro e u2 ⟨rfl, hb⟩; have hB8 := hB7.trans (hb.mono hB7.size); have CM8 := Lib.hid (CM7.out.kept hb); obtain ⟨cm0, cm1, cm2, _, _, _⟩ := CM8.out; have HP8 := Lib.hid (HP7.out.kept hb); clear hb hB7 CM7 HP7 S2)
          | (go_at_call 22; with_reducible refine (S3.out _).mono ?_; rintro e u3 ⟨rfl, hb⟩; have hB9 := hB8.trans (hb.mono hB8.size); obtain ⟨cn0, cn1, cn2, _, _, _⟩ := CM8.out.kept hb; have HP9 := Lib.hid (HP8.out.kept hb); clear hb hB8 CM8 HP8 S3)
          | (go_at_call 13; with_reducible refine (GM.out _ HP9.out).mono ?_; rintro e u4 ⟨v4, rfl, hp, hb⟩; have hB10 := hB9.trans (hb.mono hB9.size); have HP10 := Lib.hid (HP9.out.kept hb); have HX10 := Lib.hid hp; clear hb hB9 HP9 hp)
          | (go_at_call 10; with_reducible refine (MR.out _ _ HX10.out).mono ?_; rintro e u5 ⟨rfl, hb⟩; have hB11 := hB10.trans (hb.mono hB10.size); have HP11 := Lib.hid (HP10.out.kept hb); have HX11 := Lib.hid (HX10.out.kept hb); clear hb hB10 HP10 HX10)
          | (go_at_call 17; with_reducible refine (MA.out _ _ HX11.out).mono ?_; rintro e u6 ⟨rfl, hb⟩; have hB12 := hB11.trans (hb.mono hB11.size); have HP12 := Lib.hid (HP11.out.kept hb); clear hb hB11 HP11 HX11)
          | (go_at_call 17; with_reducible refine (GA.out _ HP12.out).mono ?_; rintro e u7 ⟨rfl, hb⟩; have hB13 := hB12.trans (hb.mono hB12.size); clear hb hB12 HP12)
          | (go_at_call 7; refine (HAL.out _).mono ?_; rintro e u8 ⟨rfl, hb⟩; have hB14 := hB13.trans (hb.mono hB13.size); clear hb hB13))
        go_ret
        exact ⟨rfl, hB14⟩
      all_goals
        go_wp2_with (first
          | (go_at_call 21; with_reducible refine (S1.out _).mono ?_; rintro e u1 ⟨rfl, hb⟩; replace hB6 := hB6.trans (hb.mono hB6.size); obtain ⟨cb0, cb1, _, _⟩ := HB6.out.kept hb; have CM7 := Lib.hid (CM6.out.kept hb); clear hb HB6 CM6 S1)
          | (go_at_call 21; with_reducible refine (S2.out _).mono ?_; rintro e u2 ⟨rfl, hb⟩; replace hB6 := hB6.trans (hb.mono hB6.size); obtain ⟨cm0, cm1, cm2, _, _, _⟩ := CM7.out.kept hb; clear hb CM7 S2)
          | (go_at_call 22; with_reducible refine (S3.out _).mono ?_; rintro e u3 ⟨rfl, hb⟩; replace hB6 := hB6.trans (hb.mono hB6.size); clear hb S3)
          | (go_at_call 7; refine (HAL.out _).mono ?_; rintro e u8 ⟨rfl, hb⟩; replace hB6 := hB6.trans (hb.mono hB6.size); clear hb HAL))
        go_ret
        exact ⟨rfl, hB6⟩
end Go.Proofs.Ythndmoipemnllaa
