/- The law WalkTexts. -/
import Derived.Test.YtibeljppjaenbaaWalkAlive
import Derived.Test.YtibeljppjaenbaaWalkRefT
import Derived.Test.YtibeljppjaenbaaWalkRefP
namespace Go.Proofs.Ytibeljppjaenbaa
open Go.RowKit

theorem wrun_len (o : Option (Int × Nat × Nat)) (s : List UInt8) (p : Nat) (out : List (Int × Int)) : (wrun o s p out).1.length ≤ out.length + s.length + (if o.isSome then 1 else 0) := by
  induction s generalizing o p out with
  | nil =>
    cases o with
    | none => simp [wrun]
    | some x => obtain ⟨k, j, n⟩ := x; simp [wrun]
  | cons c t ih =>
    cases o with
    | none =>
      simp only [wrun]
      split
      · simp
      · have := ih (some (kd c.toNat, 0, 0)) (p + 1) out
        simp at this ⊢
        omega
    | some x =>
      obtain ⟨k, j, n⟩ := x
      simp only [wrun]
      split
      · split
        · simp
        · split
          · simp
          · have := ih (some (k, j + 1, 10 * n + (c.toNat - 48))) (p + 1) out
            simp at this ⊢
            omega
      · split
        · simp
        · have := ih (some (kd c.toNat, 0, 0)) (p + 1) (out ++ [(k, max (n : Int) 1)])
          simp at this ⊢
          omega

set_option maxHeartbeats 1000000 in
set_option maxRecDepth 100000 in
theorem walkTexts_any (va : Value) (l : List (Int × Int)) (s : ByteArray) (w : World) (ha : PairsAt w va l) (hl : l.length ≤ 9223372036854775807) (hs : s.size ≤ 9223372036854775807) :
    Calls Try.prog 3 #[va, .string s] w fun e w' => e = .returned (.bool true) ∧ Below w.heap.size w w' := by
  have hB := Below.refl w.heap.size w
  have hal := fun w => walkAlive_any w
  have HAL := Lib.hid hal
  clear hal
  by_cases h1 : 100 < l.length
  · obtain ⟨a, ca, rfl, hca, ha⟩ := ha
    clear ha
    go_enter Try.func3, Try.ntmps3
    go_wp2_with (go_at_call 8; refine (HAL.out _).mono ?_; rintro e w1 ⟨rfl, hb⟩)
    go_ret
    exact ⟨rfl, hb⟩
  by_cases h2 : 300 < s.size
  · obtain ⟨a, ca, rfl, hca, ha⟩ := ha
    clear ha
    go_enter Try.func3, Try.ntmps3
    go_wp2_with (go_at_call 8; refine (HAL.out _).mono ?_; rintro e w1 ⟨rfl, hb⟩)
    go_ret
    exact ⟨rfl, hb⟩
  obtain ⟨R, hR⟩ : ∃ R, wrun none s.data.toList 0 [] = R := ⟨_, rfl⟩
  have hlen : R.1.length ≤ 300 := by
    have h := wrun_len none s.data.toList 0 []
    rw [hR] at h
    simp only [List.length_nil, Option.isSome_none, Bool.false_eq_true, if_false] at h
    rw [← Lib.size_eq] at h
    omega
  have hp := fun w => wParse_any s w (by omega) R hR
  have hq := fun w => refParseW_any s w (by omega) R hR
  have ht := fun w ha => wText_any va l w ha (by omega)
  have hu := fun w ha => refTextW_any va l w ha (by omega)
  have hsm := fun w v1 v2 h1 h2 => refSame_any v1 v2 R.1 R.1 w h1 h2 (by omega) (by omega)
  rw [show decide (R.1 = R.1) = true from decide_eq_true rfl] at hsm
  obtain ⟨L, E, P⟩ := R
  simp only at hp hq hsm hlen
  generalize bz (wtx l) = T at ht hu
  have HP := Lib.hid hp
  have HQ := Lib.hid hq
  have HT := Lib.hid ht
  have HU := Lib.hid hu
  have HS := Lib.hid hsm
  have HA := Lib.hid ha
  have hform : ∃ a c, va = .slice a l.length c := by obtain ⟨a, c, e, _⟩ := ha; exact ⟨a, c, e⟩
  obtain ⟨a, c, rfl⟩ := hform
  clear hp hq ht hu hsm hR ha hlen
  go_enter Try.func3, Try.ntmps3
  go_wp2_with (first
    | (go_at_call 9; refine (HP.out _).mono ?_; rintro e w1 ⟨v1, rfl, hv, hb⟩; replace hB := hB.trans (hb.mono hB.size); have hA1 := Lib.hid (HA.out.kept hb); have hV1 := Lib.hid hv; clear hb hv)
    | (go_at_call 10; refine (HQ.out _).mono ?_; rintro e w2 ⟨v2, rfl, hv, hb⟩; replace hB := hB.trans (hb.mono hB.size); have hA2 := Lib.hid (hA1.out.kept hb); have hV2 := Lib.hid (hV1.out.kept hb); have hX2 := Lib.hid hv; clear hb hv)
    | (go_at_call 11; refine (HT.out _ hA2.out).mono ?_; rintro e w3 ⟨rfl, hb⟩; replace hB := hB.trans (hb.mono hB.size); have hA3 := Lib.hid (hA2.out.kept hb); have hV3 := Lib.hid (hV2.out.kept hb); have hX3 := Lib.hid (hX2.out.kept hb); clear hb)
    | (go_at_call 12; refine (HU.out _ hA3.out).mono ?_; rintro e w4 ⟨rfl, hb⟩; replace hB := hB.trans (hb.mono hB.size); have hV4 := Lib.hid (hV3.out.kept hb); have hX4 := Lib.hid (hX3.out.kept hb); clear hb)
    | (go_at_call 13; refine (HS.out _ _ _ hV4.out hX4.out).mono ?_; rintro e w5 ⟨rfl, hb⟩; replace hB := hB.trans (hb.mono hB.size); clear hb)
    | (go_at_call 8; refine (HAL.out _).mono ?_; rintro e w6 ⟨rfl, hb⟩; replace hB := hB.trans (hb.mono hB.size); clear hb))
  go_ret
  exact ⟨rfl, hB⟩
end Go.Proofs.Ytibeljppjaenbaa
