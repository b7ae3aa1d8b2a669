/- The law WalkLaws. -/
import Derived.Test.YtibeljppjaenbaaWalkPath
import Derived.Test.YtibeljppjaenbaaWalkAlive
import Derived.Test.YtibeljppjaenbaaWalkI
import Derived.Test.YtibeljppjaenbaaWalkL
import Derived.Test.YtibeljppjaenbaaWalkJ
import Derived.Deep.RegionHeld3
namespace Go.Proofs.Ytibeljppjaenbaa
open Go.RowKit
attribute [local go_sem ↓] Go.wp_at_zero Go.wp_at_succ

set_option maxHeartbeats 4000000 in
set_option maxRecDepth 100000 in
theorem walkLaws_any (va vb : Value) (a b : List (Int × Int)) (w : World) (ha : PairsAt w va a) (hla : a.length ≤ 9223372036854775807) (hb : PairsAt w vb b) (hlb : b.length ≤ 9223372036854775807) :
    Calls Try.prog 6 #[va, vb] w fun e w' => e = .returned (.bool true) ∧ Below w.heap.size w w' := by
  have hB := Below.refl w.heap.size w
  have hal := fun w => walkAlive_any w
  have HAL := Lib.hid hal
  have HA := Lib.hid ha
  have HB := Lib.hid hb
  have hforma : ∃ x c, va = .slice x a.length c := by obtain ⟨x, c, e, _⟩ := ha; exact ⟨x, c, e⟩
  have hformb : ∃ x c, vb = .slice x b.length c := by obtain ⟨x, c, e, _⟩ := hb; exact ⟨x, c, e⟩
  obtain ⟨xa, ca, rfl⟩ := hforma
  obtain ⟨xb, cb, rfl⟩ := hformb
  clear hal ha hb
  by_cases h1 : 60 < a.length
  · go_enter Try.func6, Try.ntmps6
    go_wp2_with (go_at_call 8; refine (HAL.out _).mono ?_; rintro e w1 ⟨rfl, hb⟩)
    go_ret
    exact ⟨rfl, hb⟩
  by_cases h2 : 60 < b.length
  · go_enter Try.func6, Try.ntmps6
    go_wp2_with (go_at_call 8; refine (HAL.out _).mono ?_; rintro e w1 ⟨rfl, hb⟩)
    go_ret
    exact ⟨rfl, hb⟩
  have hna := fun w h => refNear_any (.slice xa a.length ca) a 250 w h (by omega) (by decide) (by decide)
  have hnb := fun w h => refNear_any (.slice xb b.length cb) b 250 w h (by omega) (by decide) (by decide)
  by_cases h3 : stps a ≤ 250
  case neg =>
    rw [decide_eq_false h3] at hna
    have HN := Lib.hid hna
    clear hna hnb h3
    go_enter Try.func6, Try.ntmps6
    go_wp2_with (first
      | (go_at_call 23; refine (HN.out _ HA.out).mono ?_; rintro e w1 ⟨rfl, hb⟩; replace hB := hB.trans (hb.mono hB.size); clear hb)
      | (go_at_call 8; refine (HAL.out _).mono ?_; rintro e w1 ⟨rfl, hb⟩; replace hB := hB.trans (hb.mono hB.size); clear hb))
    go_ret
    exact ⟨rfl, hB⟩
  rw [decide_eq_true h3] at hna
  have HNA := Lib.hid hna
  clear hna
  by_cases h4 : stps b ≤ 250
  case neg =>
    rw [decide_eq_false h4] at hnb
    have HNB := Lib.hid hnb
    clear hnb h4
    go_enter Try.func6, Try.ntmps6
    go_wp2_with (first
      | (go_at_call 23; with_reducible refine (HNA.out _ HA.out).mono ?_; rintro e w1 ⟨rfl, hb⟩; replace hB := hB.trans (hb.mono hB.size); have HB1 := Lib.hid (HB.out.kept hb); clear hb)
      | (go_at_call 23; with_reducible refine (HNB.out _ HB1.out).mono ?_; rintro e w1 ⟨rfl, hb⟩; replace hB := hB.trans (hb.mono hB.size); clear hb)
      | (go_at_call 8; refine (HAL.out _).mono ?_; rintro e w1 ⟨rfl, hb⟩; replace hB := hB.trans (hb.mono hB.size); clear hb))
    go_ret
    exact ⟨rfl, hB⟩
  rw [decide_eq_true h4] at hnb
  have HNB := Lib.hid hnb
  clear hnb
  have hra := revw_len a
  obtain ⟨⟨T, X, Y⟩, hE⟩ : ∃ e, eend a = e := ⟨_, rfl⟩
  obtain ⟨⟨T', X', Y'⟩, hF⟩ : ∃ e, eend b = e := ⟨_, rfl⟩
  have hTa := eend_all a
  have hTb := eend_all b
  obtain ⟨hxa, hya⟩ := eend_near h3
  obtain ⟨hxb, hyb⟩ := eend_near h4
  rw [hE] at hTa hxa hya
  rw [hF] at hTb hxb hyb
  simp only at hTa hxa hya hTb hxb hyb
  have hthen := then_is hTa hTb hxa hya hxb hyb
  rw [← hE, ← hF, ← eend_append] at hthen
  have hback := back_is hE hxa hya
  have hundo := eend_undo a
  obtain ⟨⟨T2, X2, Y2⟩, hE2⟩ : ∃ e, eend (a ++ b) = e := ⟨_, rfl⟩
  obtain ⟨⟨T3, X3, Y3⟩, hE3⟩ : ∃ e, eend (revw a) = e := ⟨_, rfl⟩
  rw [hE2] at hthen
  rw [hE3] at hback
  have ea := fun w h => wEnd_any (.slice xa a.length ca) a w h (by omega)
  have eb := fun w h => wEnd_any (.slice xb b.length cb) b w h (by omega)
  have eab := fun w v h => wEnd_any v (a ++ b) w h (by rw [List.length_append]; omega)
  have erv := fun w v h => wEnd_any v (revw a) w h (by omega)
  have eaa := fun w v h => wEnd_any v (a ++ revw a) w h (by rw [List.length_append]; omega)
  have bab := fun w v1 v2 h1 h2 => wboth_any v1 v2 a b w h1 h2 (by omega) (by omega)
  have baa := fun w v1 v2 h1 h2 => wboth_any v1 v2 a (revw a) w h1 h2 (by omega) (by omega)
  have hrv := fun w v h => wReverse_any v a w h (by omega)
  have hth := fun w => mthen_any T' X' Y' T X Y w
  have hbk := fun w => mback_any T X Y w
  have htr := fun w v h => wTrace_any v a w h (by omega)
  rw [hE] at ea
  rw [hF] at eb
  rw [hE2] at eab
  rw [hE3] at erv
  rw [hundo] at eaa
  have t1 := congrArg Prod.fst hthen
  have t2 := congrArg (fun e => e.2.1) hthen
  have t3 := congrArg (fun e => e.2.2) hthen
  have k1 := congrArg Prod.fst hback
  have k2 := congrArg (fun e => e.2.1) hback
  have k3 := congrArg (fun e => e.2.2) hback
  simp only at t1 t2 t3 k1 k2 k3
  rw [t1, t2, t3] at hth
  rw [k1, k2, k3] at hbk
  rw [trc_near h3] at htr
  have hpath := (tpts_path a (0, 0, 0) ⟨by decide, by decide⟩).1
  have hlast := trc_last a
  rw [hE] at hlast
  have htl := tpts_length a (0, 0, 0)
  have hlen : (tpts a (0, 0, 0)).length ≤ 250 := by omega
  generalize tpts a (0, 0, 0) = pts at *
  generalize a ++ b = ab at eab bab
  generalize a ++ revw a = aa at eaa baa
  generalize revw a = rv at erv baa hrv
  simp only at ea eb eab erv eaa htr hlast hpath
  have EA := Lib.hid ea
  have EB := Lib.hid eb
  have EAB := Lib.hid eab
  have ERV := Lib.hid erv
  have EAA := Lib.hid eaa
  have BAB := Lib.hid bab
  have BAA := Lib.hid baa
  have HRV := Lib.hid hrv
  have HTH := Lib.hid hth
  have HBK := Lib.hid hbk
  have HTR := Lib.hid htr
  have HPT := Lib.hid hpath
  have HLS := Lib.hid hlast
  clear ea eb eab erv eaa bab baa hrv hth hbk htr hpath hlast t1 t2 t3 k1 k2 k3 hthen hback hundo hE2 hE3 hE hF hTa hTb hxb hyb htl hra h3 h4
  go_enter Try.func6, Try.ntmps6
  go_wp2_with (first
    | (go_at_call 23; with_reducible refine (HNA.out _ HA.out).mono ?_; rintro e w1 ⟨rfl, hb⟩; replace hB := hB.trans (hb.mono hB.size); have HA1 := Lib.hid (HA.out.kept hb); have HB1 := Lib.hid (HB.out.kept hb); clear hb HA HB)
    | (go_at_call 23; with_reducible refine (HNB.out _ HB1.out).mono ?_; rintro e w2 ⟨rfl, hb⟩; replace hB := hB.trans (hb.mono hB.size); have HA2 := Lib.hid (HA1.out.kept hb); have HB2 := Lib.hid (HB1.out.kept hb); clear hb HA1 HB1)
    | (go_at_call 16; with_reducible refine (EA.out _ HA2.out).mono ?_; rintro e w3 ⟨rfl, hb⟩; replace hB := hB.trans (hb.mono hB.size); have HA3 := Lib.hid (HA2.out.kept hb); have HB3 := Lib.hid (HB2.out.kept hb); clear hb HA2 HB2)
    | (go_at_call 16; with_reducible refine (EB.out _ HB3.out).mono ?_; rintro e w4 ⟨rfl, hb⟩; replace hB := hB.trans (hb.mono hB.size); have HA4 := Lib.hid (HA3.out.kept hb); have HB4 := Lib.hid (HB3.out.kept hb); clear hb HA3 HB3))
  have hbe : Below w4.heap.size w4 ((w4.alloc (.cells #[.int .i64 T, .int .i64 X, .int .i64 Y] 36)).alloc (.cells #[.int .i64 T', .int .i64 X', .int .i64 Y'] 36)) := ((Below.refl _ w4).alloc (Nat.le_refl _) _).alloc (by simp) _
  have HA5 := HA4.out.kept hbe
  have HB5 := HB4.out.kept hbe
  have C5 := (Cell3.new w4 (.int .i64 T) (.int .i64 X) (.int .i64 Y) 36).alloc (.cells #[.int .i64 T', .int .i64 X', .int .i64 Y'] 36)
  have C6 := Cell3.new (w4.alloc (.cells #[.int .i64 T, .int .i64 X, .int .i64 Y] 36)) (.int .i64 T') (.int .i64 X') (.int .i64 Y') 36
  rw [World.size_alloc] at C6
  replace hB := hB.trans (hbe.mono hB.size)
  obtain ⟨N, hN⟩ : ∃ N, w4.heap.size = N := ⟨_, rfl⟩
  rw [hN] at C5 C6 ⊢
  clear hbe HA4 HB4
  generalize (w4.alloc (.cells #[.int .i64 T, .int .i64 X, .int .i64 Y] 36)).alloc (.cells #[.int .i64 T', .int .i64 X', .int .i64 Y'] 36) = W0 at *
  clear hN
  have hS0 : Below W0.heap.size W0 W0.drew := below_drewN (Below.refl _ W0) 1
  have K0 : ∀ w', Below W0.heap.size W0 w' → w'.cell? ⟨N, 0, none⟩ = some (.int .i64 T) := fun w' h => (h.cell (World.block_lt_of_cell? _ _ C5.c0)).trans C5.c0
  have K1 : ∀ w', Below W0.heap.size W0 w' → w'.cell? ⟨N, 1, none⟩ = some (.int .i64 X) := fun w' h => (h.cell (World.block_lt_of_cell? _ _ C5.c1)).trans C5.c1
  have K2 : ∀ w', Below W0.heap.size W0 w' → w'.cell? ⟨N, 2, none⟩ = some (.int .i64 Y) := fun w' h => (h.cell (World.block_lt_of_cell? _ _ C5.c2)).trans C5.c2
  have K3 : ∀ w', Below W0.heap.size W0 w' → w'.cell? ⟨N + 1, 0, none⟩ = some (.int .i64 T') := fun w' h => (h.cell (World.block_lt_of_cell? _ _ C6.c0)).trans C6.c0
  have K4 : ∀ w', Below W0.heap.size W0 w' → w'.cell? ⟨N + 1, 1, none⟩ = some (.int .i64 X') := fun w' h => (h.cell (World.block_lt_of_cell? _ _ C6.c1)).trans C6.c1
  have K5 : ∀ w', Below W0.heap.size W0 w' → w'.cell? ⟨N + 1, 2, none⟩ = some (.int .i64 Y') := fun w' h => (h.cell (World.block_lt_of_cell? _ _ C6.c2)).trans C6.c2
  have HA6 := Lib.hid HA5
  have HB6 := Lib.hid HB5
  clear HA5 HB5
  go_region_held3 (fun w' => Below W0.heap.size W0 w') (assumption) ((first
    | (go_at_call 24; with_reducible refine (BAB.out _ _ _ (HA6.out.kept ‹Below W0.heap.size W0 _›) (HB6.out.kept ‹Below W0.heap.size W0 _›)).mono ?_; rintro e u1 ⟨r1, rfl, hp1, hb1⟩; have hS1 := keep_call ‹Below W0.heap.size W0 _› hb1; clear hb1)
    | (go_at_call 16; with_reducible refine (EAB.out _ r1 hp1).mono ?_; rintro e u2 ⟨rfl, hb2⟩; have hS2 := keep_call hS1 hb2; clear hb2 hp1)
    | (go_at_call 25; with_reducible refine (HTH.out _).mono ?_; rintro e u3 ⟨rfl, hb3⟩; have hS3 := keep_call hS2 hb3; clear hb3)
    | (go_at_call 21; with_reducible refine (HRV.out _ _ (HA6.out.kept ‹Below W0.heap.size W0 _›)).mono ?_; rintro e u4 ⟨r4, rfl, hp4, hb4⟩; have hS4 := keep_call ‹Below W0.heap.size W0 _› hb4; clear hb4)
    | (go_at_call 26; with_reducible refine (HBK.out _).mono ?_; rintro e u6 ⟨rfl, hb6⟩; have hS6 := keep_call ‹Below W0.heap.size W0 _› hb6; clear hb6)
    | (go_at_call 24; with_reducible refine (BAA.out _ _ _ (HA6.out.kept ‹Below W0.heap.size W0 _›) hp4).mono ?_; rintro e u8 ⟨r8, rfl, hp8, hb8⟩; have hS8 := keep_call ‹Below W0.heap.size W0 _› hb8; clear hb8 hp4)
    | (go_at_call 16; with_reducible refine (EAA.out _ r8 hp8).mono ?_; rintro e u9 ⟨rfl, hb9⟩; have hS9 := keep_call hS8 hb9; clear hb9)
    | (go_at_call 16; with_reducible refine (ERV.out _ r4 hp4).mono ?_; rintro e u5 ⟨rfl, hb5⟩; have hS5 := keep_call hS4 hb5; clear hb5 hp4)))
  have HAU := Lib.hid (HA6.out.kept hS9)
  have K1' := K1 _ hS9
  have K2' := K2 _ hS9
  replace hB := hB.trans (hS9.mono hB.size)
  clear hS1 hS2 hS3 hS4 hS5 hS6 hS8 hS9 hS0 hp8 K0 K1 K2 K3 K4 K5 C5 C6 HA6 HB6 EA EB EAB ERV EAA BAB BAA HRV HTH HBK HNA HNB
  obtain ⟨n, hn⟩ : ∃ n, pts.length = n := ⟨_, rfl⟩
  have hlp : ((0, 0) :: pts)[n]? = some (X, Y) := by
    obtain ⟨x, he⟩ : ∃ x, ((0, 0) :: pts)[pts.length]? = some x := ⟨_, List.getElem?_eq_getElem (by simp)⟩
    have := HLS.out x he
    rw [← hn, he, this]
  have hll : ((0, 0) :: pts).length = n + 1 := by rw [List.length_cons, hn]
  have hp0 : ((0, 0) :: pts)[0]? = some ((0 : Int), (0 : Int)) := rfl
  have HP0 := Lib.hid hp0
  have HLP := Lib.hid hlp
  have HLL := Lib.hid hll
  rw [hn] at hlen
  clear HLS hn hlp hll hp0
  have hpathl := HPT.out
  have HPA := Lib.hid (fun i x y => Path.at hpathl i x y)
  have HPB := Lib.hid (fun i x => Path.bd hpathl 0 (by decide) i x)
  clear hpathl HPT
  generalize (0, 0) :: pts = LL at *
  go_wp2_with (go_at_call 14; (with_reducible refine (HTR.out _ _ HAU.out).mono ?_); rintro e z1 ⟨vt, rfl, hp, hb⟩; replace hB := hB.trans (hb.mono hB.size); replace K1' := (hb.cell (World.block_lt_of_cell? _ _ K1')).trans K1'; replace K2' := (hb.cell (World.block_lt_of_cell? _ _ K2')).trans K2'; obtain ⟨at', ct, rfl, hct, hcell⟩ := hp; clear hb HAU; rw [HLL.out] at hct hcell; rw [HLL.out]; obtain ⟨g, o, rfl, hg, hx⟩ := hcell (Nat.succ_pos n); have hz := hx 0 _ HP0.out; have hl := hx n _ HLP.out; have HX := Lib.hid hx; clear hx hcell; rw [Nat.zero_mul, Nat.add_zero] at hz; obtain ⟨z0, z1'⟩ := hz; obtain ⟨l0, l1⟩ := hl)
  have hn0 : (((n + 1 : Nat) : Int) == 0) = false := beq_no' (by omega)
  have hnm : (((n + 1 : Nat) : Int) - 1) = (n : Int) := by omega
  have hn1 : ((n : Int) + 1 == 0) = false := beq_no' (by omega)
  have hn2 : (n : Int) + 1 - 1 = (n : Int) := by omega
  have f0 : (0 : Int) ≤ (n : Int) := by omega
  have f1 : (n : Int) < ((n + 1 : Nat) : Int) := by omega
  have f2 : (0 : Int) < ((n + 1 : Nat) : Int) := by omega
  refine wp_region_calm0 (by kernel_rfl) (by kernel_rfl) fun M => ?_
  have q0 := fun n : In M.w => n.cell (M.cell z0)
  have q1 := fun n : In M.w => n.cell (M.cell z1')
  have q2 := fun n : In M.w => n.cell (M.cell l0)
  have q3 := fun n : In M.w => n.cell (M.cell l1)
  have q4 := fun n : In M.w => n.cell (M.cell K1')
  have q5 := fun n : In M.w => n.cell (M.cell K2')
  repeat (go_big_quiet_step (fail))
  refine wpQuiet_nil ?_
  intro z2 hz2
  clear q0 q1 q2 q3 q4 q5 M z0 z1' l0 l1 K1' K2' hn0 hn1
  go_wp2
  clear f0 f1 f2 hnm hn2
  go_loopw [9, 10] (fun i _ wr => ∃ k : Nat, 1 ≤ k ∧ k ≤ n + 2 ∧ i = .int .i64 k ∧ Below z1.heap.size z1 wr) (fun i _ _ => n + 2 - (intOf i).toNat)
  case atStart => exact ⟨1, by omega, by omega, rfl, hz2⟩
  case round =>
    clear hz2
    obtain ⟨k, hk1, hk2, rfl, hW⟩ := hrel
    obtain ⟨j, rfl⟩ : ∃ j, k = j + 1 := ⟨k - 1, by omega⟩
    by_cases hlt : j + 1 < n + 1
    · obtain ⟨⟨x1, x2⟩, ex⟩ : ∃ x, LL[j + 1]? = some x := ⟨_, List.getElem?_eq_getElem (by rw [HLL.out]; exact hlt)⟩
      obtain ⟨⟨y1, y2⟩, ey⟩ : ∃ x, LL[j]? = some x := ⟨_, List.getElem?_eq_getElem (by rw [HLL.out]; omega)⟩
      have hunit := HPA.out j _ _ ey ex
      obtain ⟨b1, b2⟩ := HPB.out _ _ ex
      obtain ⟨b3, b4⟩ := HPB.out _ _ ey
      simp only [Nat.zero_add] at b1 b2 b3 b4
      have hj : j < 250 := by omega
      have p1 : wr.cell? ⟨g, o + (j + 1) * 2, none⟩ = some (.int .i64 x1) := (hW.cell (p := ⟨g, o + (j + 1) * 2, none⟩) hg).trans (HX.out _ _ ex).1
      have p2 : wr.cell? ⟨g, o + (j + 1) * 2 + 1, none⟩ = some (.int .i64 x2) := (hW.cell (p := ⟨g, o + (j + 1) * 2 + 1, none⟩) hg).trans (HX.out _ _ ex).2
      have p3 : wr.cell? ⟨g, o + j * 2, none⟩ = some (.int .i64 y1) := (hW.cell (p := ⟨g, o + j * 2, none⟩) hg).trans (HX.out _ _ ey).1
      have p4 : wr.cell? ⟨g, o + j * 2 + 1, none⟩ = some (.int .i64 y2) := (hW.cell (p := ⟨g, o + j * 2 + 1, none⟩) hg).trans (HX.out _ _ ey).2
      unfold Unit1 at hunit
      simp only at hunit
      have j0 : (0 : Int) ≤ (j : Int) := by omega
      have j1 : (j : Int) < ((n + 1 : Nat) : Int) := by omega
      have j2 : ((j : Int) + 1) < ((n + 1 : Nat) : Int) := by omega
      have j3 : (0 : Int) ≤ (j : Int) + 1 := by omega
      have j5 : (j : Int) < (n : Int) + 1 := by omega
      have j6 : (j : Int) + 1 < (n : Int) + 1 := by omega
      have jt : ((j : Int) + 1).toNat = j + 1 := by omega
      have jw : ((j : Int) + 1) - 1 = (j : Int) := by omega
      have jm : (((j + 1 : Nat) : Int) - 1) = (j : Int) := by omega
      obtain ⟨d, e, hd, he, hde⟩ : ∃ d e : Int, x1 - y1 = d ∧ x2 - y2 = e ∧ ((d = 1 ∧ e = 0) ∨ (d = -1 ∧ e = 0) ∨ (d = 0 ∧ e = 1) ∨ (d = 0 ∧ e = -1)) := ⟨_, _, rfl, rfl, hunit⟩
      have w1' : IntKind.i64.wrap (x1 - y1) = d := by rw [IntKind.wrap_i64]; omega
      have w2' : IntKind.i64.wrap (x2 - y2) = e := by rw [IntKind.wrap_i64]; omega
      have hbz := hW.size
      clear ex ey hunit b1 b2 b3 b4
      go_wp2
      refine wp_region_calmN 25 26 [(.cells #[.int .i64 0, .int .i64 0] 34, fun b => .pointer (some ⟨b, 0, none⟩))] (by kernel_rfl) (by simp) (by simp) (by kernel_rfl) fun M => ?_
      simp only [List.take_succ_cons, List.take_zero, List.drop_succ_cons, List.drop_zero, List.length_cons, List.length_nil, List.take_nil]
      have e1 := fun n : In M.w => n.cell (M.cell p1)
      have e2 := fun n : In M.w => n.cell (M.cell p2)
      have e3 := fun n : In M.w => n.cell (M.cell p3)
      have e4 := fun n : In M.w => n.cell (M.cell p4)
      repeat (go_big_quiet_step (fail))
      refine wpQuiet_nil ?_
      clear e1 e2 e3 e4 M p1 p2 p3 p4
      refine ⟨rfl, fun n => by simp [go_sem], fun bp hbp _ w5 hw => ?_⟩
      have hb5 := hw.below
      have hH := fun a b => heap2_set (hw.own bp _ (Gh.set_self _ _ _)) a b
      obtain ⟨s0, s1, s2, s3⟩ : Cell2 w5 bp (.int .i64 0) (.int .i64 0) := Cell2.of_heap (hw.own bp _ (Gh.set_self _ _ _))
      have hbp2 : z1.heap.size ≤ bp := by omega
      have hW5 := ((hW.trans (hb5.mono hW.size)).setCell (p := ⟨bp, 0, none⟩) hbp2 (.int .i64 d)).setCell (p := ⟨bp, 1, none⟩) hbp2 (.int .i64 e)
      obtain ⟨r0, r1', _, _⟩ := Cell2.of_heap (hH (.int .i64 d) (.int .i64 e))
      clear hw hb5 hH
      go_upto_region 13 with fail
      clear s0 s1 s2 s3 hd he w1' w2'
      generalize (w5.setCell ⟨bp, 0, none⟩ (.int .i64 d)).setCell ⟨bp, 1, none⟩ (.int .i64 e) = W6 at *
      rcases hde with ⟨rfl, rfl⟩ | ⟨rfl, rfl⟩ | ⟨rfl, rfl⟩ | ⟨rfl, rfl⟩
      all_goals
        go_wp2
        go_roundw
        case rel => exact ⟨j + 1 + 1, by omega, by omega, by go_num, hW5⟩
        case measure => simp [intOf]; omega
    · have hB' := hB.trans (hW.mono hB.size)
      clear HX
      go_wp2_with (go_at_call 8; refine (HAL.out _).mono ?_; rintro e w4 ⟨rfl, hb⟩; replace hB' := hB'.trans (hb.mono hB'.size); clear hb)
      go_ret
      exact ⟨rfl, hB'⟩
end Go.Proofs.Ytibeljppjaenbaa
