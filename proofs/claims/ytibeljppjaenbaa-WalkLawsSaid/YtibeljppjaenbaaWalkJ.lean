/- The walks of package walk: a trace; the law WalkEnds. -/
import Derived.Test.YtibeljppjaenbaaWalkH
import Derived.Test.YtibeljppjaenbaaWalkAlive
import Derived.Test.YtibeljppjaenbaaWalkRefR
namespace Go.Proofs.Ytibeljppjaenbaa
open Go.RowKit
attribute [local go_sem] store_complex

theorem field_stands (a b c d : Nat) (w : World) : (Instr.field 66 (.agg #[.complex .f64 a b, .complex .f64 c d]) 0).run Try.prog w = .ok (.complex .f64 a b) w := by
  simp [Instr.field, run_underlying Try.underlying66, asAgg, go_sem]
attribute [local go_sem high] field_stands

set_option maxHeartbeats 2000000 in
set_option maxRecDepth 100000 in
theorem wTrace_any (va : Value) (l : List (Int × Int)) (w : World) (ha : PairsAt w va l) (hl : l.length ≤ 300) :
    Calls Try.prog 14 #[va] w fun e w' => ∃ v, e = .returned (.tuple #[v, .int .i64 (trc l).2]) ∧ PairsAt w' v (trc l).1 ∧ Below w.heap.size w w' := by
  have hfew := fun w ha => wfew_any va l w ha (by omega)
  have HA := Lib.hid ha
  have hB := Below.refl w.heap.size w
  clear ha
  by_cases hs : 10000 < stps l
  · have ht : trc l = ([], 15) := by unfold trc; rw [if_pos hs]
    rw [show decide (stps l ≤ 10000) = false from decide_eq_false (by omega)] at hfew
    have HF := Lib.hid hfew
    have HT := Lib.hid ht
    clear hfew ht hs
    go_enter Try.func14, Try.ntmps14
    go_wp2_with (go_at_call 34; refine (HF.out _ HA.out).mono ?_; rintro e w1 ⟨rfl, hb⟩; replace hB := hB.trans (hb.mono hB.size); clear hb)
    refine bodyPost_ret (v := .tuple #[.slice none 0 0, .int .i64 15]) (by simp [results, Try.results14, go_sem]) rfl ⟨.slice none 0 0, by rw [HT.out], by rw [HT.out]; exact PairsAt.nil _, hB⟩
  · have ht : trc l = ((0, 0) :: tpts l (0, 0, 0), 0) := by unfold trc; rw [if_neg hs]
    rw [show decide (stps l ≤ 10000) = true from decide_eq_true (by omega)] at hfew
    have heach := fun w1 b v0 hb hz h => weach_any va l w w1 w.heap.size b v0 HA.out (Nat.le_refl _) hb hz h hl
    have hpt := fun w => wpoint_any 0 0 0 0 zero_whole zero_whole (by decide) (by decide) w
    have HF := Lib.hid hfew
    have HT := Lib.hid ht
    have HE := Lib.hid heach
    have HP := Lib.hid hpt
    clear hfew ht hs heach hpt
    go_enter Try.func14, Try.ntmps14
    go_wp2_with (first
      | (go_at_call 34; refine (HF.out _ HA.out).mono ?_; rintro e w1 ⟨rfl, hb⟩; replace hB := hB.trans (hb.mono hB.size); clear hb)
      | (go_at_call 36; refine (wfirst_any _).mono ?_; rintro e w2 ⟨rfl, hb⟩; replace hB := hB.trans (hb.mono hB.size); clear hb)
      | (go_at_call 35; refine (HP.out _).mono ?_; rintro e w3 ⟨rfl, hb⟩; replace hB := hB.trans (hb.mono hB.size); clear hb)
      | (go_at_call 37; refine (HE.out _ _ (.slice (some ⟨w3.heap.size, 0, none⟩) 1 1) ((hB.alloc hB.size _).alloc (Nat.le_trans hB.size (by simp)) _) (Nat.le_trans hB.size (by simp; omega)) ⟨Nat.le_trans hB.size (by simp), alloc_at (by simp), (own_one w3 _ hB.size _ 0 0).alloc _⟩).mono ?_; rintro e w4 ⟨rfl, v4, ht, hb⟩; have HT4 := Lib.hid ht; have c4 : w4.cell? ⟨w3.heap.size + 1, 0, none⟩ = some v4 := (by simp [World.cell?, ht.blk]); clear ht hB))
    refine bodyPost_ret (v := .tuple #[v4, .int .i64 0]) (by simp [results, Try.results14, go_sem]) rfl ⟨v4, by rw [HT.out], by rw [HT.out]; exact HT4.out.own.pairs, hb⟩

theorem trc_len (l : List (Int × Int)) : (trc l).1.length ≤ 10001 := by
  unfold trc
  split
  · simp
  · rename_i h
    have := tpts_length l (0, 0, 0)
    rw [List.length_cons]
    omega

set_option maxHeartbeats 1000000 in
set_option maxRecDepth 100000 in
theorem walkEnds_any (va : Value) (l : List (Int × Int)) (w : World) (ha : PairsAt w va l) (hl : l.length ≤ 9223372036854775807) :
    Calls Try.prog 4 #[va] w fun e w' => e = .returned (.bool true) ∧ Below w.heap.size w w' := by
  have hB := Below.refl w.heap.size w
  have hal := fun w => walkAlive_any w
  have HAL := Lib.hid hal
  clear hal
  by_cases h1 : 100 < l.length
  · obtain ⟨a, ca, rfl, hca, ha⟩ := ha
    clear ha
    go_enter Try.func4, Try.ntmps4
    go_wp2_with (go_at_call 8; refine (HAL.out _).mono ?_; rintro e w1 ⟨rfl, hb⟩)
    go_ret
    exact ⟨rfl, hb⟩
  have hlen := trc_len l
  have hs := fun w ha => wTrace_any va l w ha (by omega)
  have ht := fun w ha => refTrace_any va l w ha (by omega)
  have hr := fun w ha => wEnd_any va l w ha (by omega)
  have hq := fun w ha => refEnd_any va l w ha (by omega)
  obtain ⟨⟨L, E⟩, hR⟩ : ∃ R, trc l = R := ⟨_, rfl⟩
  obtain ⟨⟨T, X, Y⟩, hRR⟩ : ∃ R, eend l = R := ⟨_, rfl⟩
  rw [hR] at hs ht hlen
  rw [hRR] at hr hq
  simp only at hs ht hlen hr hq
  have hsm := fun w v1 v2 h1 h2 => refPoints_any v1 v2 L L w h1 h2 (by omega) (by omega)
  rw [show decide (L = L) = true from decide_eq_true rfl] at hsm
  have HS := Lib.hid hs
  have HT := Lib.hid ht
  have HR := Lib.hid hr
  have HQ := Lib.hid hq
  have HM := Lib.hid hsm
  have HA := Lib.hid ha
  have hform : ∃ a c, va = .slice a l.length c := by obtain ⟨a, c, e, _⟩ := ha; exact ⟨a, c, e⟩
  obtain ⟨a, c, rfl⟩ := hform
  clear hs ht hr hq hsm hR hRR ha hlen
  go_enter Try.func4, Try.ntmps4
  go_wp2_with (first
    | (go_at_call 14; refine (HS.out _ HA.out).mono ?_; rintro e w1 ⟨v1, rfl, hv, hb⟩; replace hB := hB.trans (hb.mono hB.size); have hA1 := Lib.hid (HA.out.kept hb); have hV1 := Lib.hid hv; clear hb hv)
    | (go_at_call 15; refine (HT.out _ hA1.out).mono ?_; rintro e w2 ⟨v2, rfl, hv, hb⟩; replace hB := hB.trans (hb.mono hB.size); have hA2 := Lib.hid (hA1.out.kept hb); have hV2 := Lib.hid (hV1.out.kept hb); have hX2 := Lib.hid hv; clear hb hv)
    | (go_at_call 16; refine (HR.out _ hA2.out).mono ?_; rintro e w3 ⟨rfl, hb⟩; replace hB := hB.trans (hb.mono hB.size); have hA3 := Lib.hid (hA2.out.kept hb); have hV3 := Lib.hid (hV2.out.kept hb); have hX3 := Lib.hid (hX2.out.kept hb); clear hb)
    | (go_at_call 17; refine (HQ.out _ hA3.out).mono ?_; rintro e w4 ⟨rfl, hb⟩; replace hB := hB.trans (hb.mono hB.size); have hV4 := Lib.hid (hV3.out.kept hb); have hX4 := Lib.hid (hX3.out.kept hb); clear hb)
    | (go_at_call 18; refine (HM.out _ _ _ hV4.out hX4.out).mono ?_; rintro e w5 ⟨rfl, hb⟩; replace hB := hB.trans (hb.mono hB.size); clear hb)
    | (go_at_call 8; refine (HAL.out _).mono ?_; rintro e w6 ⟨rfl, hb⟩; replace hB := hB.trans (hb.mono hB.size); clear hb))
  go_ret
  exact ⟨rfl, hB⟩
end Go.Proofs.Ytibeljppjaenbaa
