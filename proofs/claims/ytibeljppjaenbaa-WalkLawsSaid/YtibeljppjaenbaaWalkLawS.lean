/- The law WalkShort. -/
import Derived.Test.YtibeljppjaenbaaWalkAlive
import Derived.Test.YtibeljppjaenbaaWalkRefN
import Derived.Test.YtibeljppjaenbaaWalkRefC
import Derived.Test.YtibeljppjaenbaaWalkI
namespace Go.Proofs.Ytibeljppjaenbaa
open Go.RowKit

theorem outs_len (l : List P2) : (outs l).length ≤ l.length := by
  induction l with
  | nil => simp [outs]
  | cons x l ih =>
    have e : outs (x :: l) = one1 x.1 x.2 ++ outs l := by simp [outs]
    have h1 : (one1 x.1 x.2).length ≤ 1 := by
      unfold one1
      split
      · simp
      · split
        · simp
        · split
          · simp
          · split <;> simp
    rw [e, List.length_append, List.length_cons]
    omega
theorem nrm_len (l : List (Int × Int)) : (nrm l).length ≤ l.length := by
  have h := (nfs_bd l l.length).2
  rw [List.take_length] at h
  unfold nrm
  rw [List.length_reverse]
  exact h
theorem srt_len (l : List (Int × Int)) : (srt l).1.length ≤ l.length := by
  unfold srt
  split
  · simp
  · exact Nat.le_trans (outs_len _) (nrm_len l)
theorem revw_len (l : List (Int × Int)) : (revw l).length = l.length := by unfold revw; simp

set_option maxHeartbeats 1000000 in
set_option maxRecDepth 100000 in
theorem walkShort_any (va : Value) (l : List (Int × Int)) (w : World) (ha : PairsAt w va l) (hl : l.length ≤ 9223372036854775807) :
    Calls Try.prog 5 #[va] w fun e w' => e = .returned (.bool true) ∧ Below w.heap.size w w' := by
  have hB := Below.refl w.heap.size w
  have hal := fun w => walkAlive_any w
  have HAL := Lib.hid hal
  clear hal
  by_cases h1 : 60 < l.length
  · obtain ⟨a, ca, rfl, hca, ha⟩ := ha
    clear ha
    go_enter Try.func5, Try.ntmps5
    go_wp2_with (go_at_call 8; refine (HAL.out _).mono ?_; rintro e w1 ⟨rfl, hb⟩)
    go_ret
    exact ⟨rfl, hb⟩
  have hlen := srt_len l
  have hrl := revw_len l
  have hs := fun w ha => wShort_any va l w ha (by omega)
  have ht := fun w ha => refShort_any va l w ha (by omega)
  have hr := fun w ha => wReverse_any va l w ha (by omega)
  have hq := fun w ha => refReverse_any va l w ha (by omega)
  obtain ⟨⟨L, E⟩, hR⟩ : ∃ R, srt l = R := ⟨_, rfl⟩
  obtain ⟨R, hRR⟩ : ∃ R, revw l = R := ⟨_, rfl⟩
  rw [hR] at hs ht hlen
  rw [hRR] at hr hq hrl
  simp only at hs ht hlen
  have hsm := fun w v1 v2 h1 h2 => refSame_any v1 v2 L L w h1 h2 (by omega) (by omega)
  have hsn := fun w v1 v2 h1 h2 => refSame_any v1 v2 R R w h1 h2 (by omega) (by omega)
  rw [show decide (L = L) = true from decide_eq_true rfl] at hsm
  rw [show decide (R = R) = true from decide_eq_true rfl] at hsn
  have HS := Lib.hid hs
  have HT := Lib.hid ht
  have HR := Lib.hid hr
  have HQ := Lib.hid hq
  have HM := Lib.hid hsm
  have HN := Lib.hid hsn
  have HA := Lib.hid ha
  have hform : ∃ a c, va = .slice a l.length c := by obtain ⟨a, c, e, _⟩ := ha; exact ⟨a, c, e⟩
  obtain ⟨a, c, rfl⟩ := hform
  clear hs ht hr hq hsm hsn hR hRR ha hlen hrl
  go_enter Try.func5, Try.ntmps5
  go_wp2_with (first
    | (go_at_call 19; refine (HS.out _ HA.out).mono ?_; rintro e w1 ⟨v1, rfl, hv, hb⟩; replace hB := hB.trans (hb.mono hB.size); have hA1 := Lib.hid (HA.out.kept hb); have hV1 := Lib.hid hv; clear hb hv)
    | (go_at_call 20; refine (HT.out _ hA1.out).mono ?_; rintro e w2 ⟨v2, rfl, hv, hb⟩; replace hB := hB.trans (hb.mono hB.size); have hA2 := Lib.hid (hA1.out.kept hb); have hV2 := Lib.hid (hV1.out.kept hb); have hX2 := Lib.hid hv; clear hb hv)
    | (go_at_call 13; refine (HM.out _ _ _ hV2.out hX2.out).mono ?_; rintro e w3 ⟨rfl, hb⟩; replace hB := hB.trans (hb.mono hB.size); have hA3 := Lib.hid (hA2.out.kept hb); clear hb hV2)
    | (go_at_call 21; refine (HR.out _ hA3.out).mono ?_; rintro e w4 ⟨v4, rfl, hv, hb⟩; replace hB := hB.trans (hb.mono hB.size); have hA4 := Lib.hid (hA3.out.kept hb); have hV4 := Lib.hid hv; clear hb hv)
    | (go_at_call 22; refine (HQ.out _ hA4.out).mono ?_; rintro e w5 ⟨v5, rfl, hv, hb⟩; replace hB := hB.trans (hb.mono hB.size); have hV5 := Lib.hid (hV4.out.kept hb); have hX5 := Lib.hid hv; clear hb hv)
    | (go_at_call 13; refine (HN.out _ _ _ hV5.out hX5.out).mono ?_; rintro e w6 ⟨rfl, hb⟩; replace hB := hB.trans (hb.mono hB.size); clear hb)
    | (go_at_call 8; refine (HAL.out _).mono ?_; rintro e w7 ⟨rfl, hb⟩; replace hB := hB.trans (hb.mono hB.size); clear hb))
  go_ret
  exact ⟨rfl, hB⟩
end Go.Proofs.Ytibeljppjaenbaa
