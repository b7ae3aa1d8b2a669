/- The walks of the document's answers for layer 5: a walk's text. -/
import Derived.Test.YtibeljppjaenbaaWalkRefC
import Derived.Test.YtibeljppjaenbaaRefNum
namespace Go.Proofs.Ytibeljppjaenbaa
open Go.RowKit

def ltr (k : Int) : UInt8 := if k = 1 then 70 else if k = 2 then 66 else if k = 3 then 76 else 82
/-- a move's text -/
def mtx (m : Int × Int) : List UInt8 := if cnt m = 0 then [] else ltr m.1 :: (if cnt m = 1 then [] else pl (cnt m))
def wtx (l : List (Int × Int)) : List UInt8 := l.flatMap mtx
theorem pl_le (n : Int) : (pl n).length ≤ 21 := by simpa using pl_len n
theorem mtx_le (m : Int × Int) : (mtx m).length ≤ 22 := by
  have := pl_le (cnt m)
  unfold mtx
  split
  · simp
  · split <;> simp <;> omega
theorem wtx_succ (l : List (Int × Int)) (k : Nat) (h : k < l.length) : wtx (l.take (k + 1)) = wtx (l.take k) ++ mtx l[k] := by
  unfold wtx
  rw [List.take_add_one, List.getElem?_eq_getElem h, List.flatMap_append]
  simp
theorem wtx_le (l : List (Int × Int)) (k : Nat) : (wtx (l.take k)).length ≤ 22 * k := by
  induction k with
  | zero => simp [wtx]
  | succ k ih =>
    by_cases h : k < l.length
    · rw [wtx_succ l k h, List.length_append]
      have := mtx_le l[k]
      omega
    · rw [List.take_of_length_le (by omega)]
      rw [List.take_of_length_le (by omega)] at ih
      omega
/-- bytes of a list -/
def bz (l : List UInt8) : ByteArray := ⟨l.toArray⟩
theorem bz_app (a b : List UInt8) : bz a ++ bz b = bz (a ++ b) := ba_app a b
theorem bz_size (l : List UInt8) : (bz l).size = l.length := by unfold bz; rw [Lib.size_eq]
theorem cut1 : (⟨#[70, 66, 76, 82]⟩ : ByteArray).extract 0 1 = bz [70] := by decide +kernel
theorem cut2 : (⟨#[70, 66, 76, 82]⟩ : ByteArray).extract 1 2 = bz [66] := by decide +kernel
theorem cut3 : (⟨#[70, 66, 76, 82]⟩ : ByteArray).extract 2 3 = bz [76] := by decide +kernel
theorem cut4 : (⟨#[70, 66, 76, 82]⟩ : ByteArray).extract 3 4 = bz [82] := by decide +kernel

set_option maxHeartbeats 4000000 in
theorem refTextW_any (va : Value) (l : List (Int × Int)) (w : World) (ha : PairsAt w va l) (hl : l.length ≤ 1000000) :
    Calls Try.prog 12 #[va] w fun e w' => e = .returned (.string (bz (wtx l))) ∧ Below w.heap.size w w' := by
  have hnil : ByteArray.empty = bz (wtx (l.take 0)) := rfl
  obtain ⟨a, ca, rfl, hca, ha⟩ := ha
  go_enter Try.func12, Try.ntmps12
  go_wp2
  go_loopw [3, 4, 5] (fun s i _ wr => ∃ (k : Nat) (S : ByteArray), k ≤ l.length ∧ i = .int .i64 k ∧ s = .string S ∧ S = bz (wtx (l.take k)) ∧ Below w.heap.size w wr) (fun _ i _ _ => l.length - (intOf i).toNat)
  case atStart => exact ⟨0, _, Nat.zero_le _, rfl, rfl, rfl, Below.refl _ _⟩
  case round =>
    clear hnil
    obtain ⟨k, S, hk, rfl, rfl, hS, hB⟩ := hrel
    have hSz : S.size ≤ 22 * k := by rw [hS, bz_size]; exact wtx_le l k
    by_cases hlt : k < l.length
    · have hsucc := wtx_succ l k hlt
      obtain ⟨ga, oa, rfl, hga, hxa⟩ := ha (by omega)
      obtain ⟨⟨x1, x2⟩, hx⟩ : ∃ x, l[k]'hlt = x := ⟨_, rfl⟩
      have hx0 := hxa k _ (List.getElem?_eq_getElem hlt)
      rw [hx] at hx0 hsucc
      have p1 : wr.cell? ⟨ga, oa + k * 2, none⟩ = some (.int .i64 x1) := (hB.cell (p := ⟨ga, oa + k * 2, none⟩) hga).trans hx0.1
      have p2 : wr.cell? ⟨ga, oa + k * 2 + 1, none⟩ = some (.int .i64 x2) := (hB.cell (p := ⟨ga, oa + k * 2 + 1, none⟩) hga).trans hx0.2
      have hc := fun w => refCount_any x1 x2 w
      have cb := cnt_bd (x1, x2)
      have hprint := fun w => refPrint_any (cnt (x1, x2)) w (by omega) (by omega)
      obtain ⟨c, hcc⟩ : ∃ c, cnt (x1, x2) = c := ⟨_, rfl⟩
      have hkr : c ≠ 0 → x1 = 1 ∨ x1 = 2 ∨ x1 = 3 ∨ x1 = 4 := by
        intro h
        rw [← hcc] at h
        unfold cnt at h
        split at h
        · exact absurd rfl h
        · simp only at *; omega
      have hm : mtx (x1, x2) = if c = 0 then [] else ltr x1 :: (if c = 1 then [] else pl c) := by unfold mtx; rw [hcc]
      rw [hcc] at hc cb hprint
      rw [hm] at hsucc
      have hpz : (bz (pl c)).size ≤ 21 := by rw [bz_size]; exact pl_le c
      change ∀ w, Calls _ _ _ w fun e w' => e = .returned (.string (bz (pl c))) ∧ w = w' at hprint
      have HP := Lib.hid hprint
      have HC := Lib.hid hc
      have HS := Lib.hid hS
      clear hx0 hxa ha hx hm hcc hc hprint hS
      obtain ⟨c0, c1⟩ := cb
      by_cases hc0 : c = 0
      · subst hc0
        rw [if_pos rfl, List.append_nil] at hsucc
        have HU := Lib.hid hsucc
        clear hsucc hkr hpz
        go_wp2_with (go_at_call 32; refine (HC.out _).mono ?_; rintro e w1 ⟨rfl, hb1⟩; replace hB := hB.trans (hb1.mono hB.size); clear p1 p2 hb1)
        go_roundw
        case rel => exact ⟨k + 1, S, by omega, by go_num, rfl, by rw [HS.out, HU.out], hB⟩
        case measure => simp [intOf]; omega
      · rw [if_neg hc0] at hsucc
        have HU := Lib.hid hsucc
        have hkinds := hkr hc0
        clear hsucc hkr
        have q := p1
        have k1 := cut1
        have k2 := cut2
        have k3 := cut3
        have k4 := cut4
        have z1 : (bz [70]).size = 1 := rfl
        have z2 : (bz [66]).size = 1 := rfl
        have z3 : (bz [76]).size = 1 := rfl
        have z4 : (bz [82]).size = 1 := rfl
        by_cases hc1 : c = 1
        · subst hc1
          clear hpz HP
          rcases hkinds with rfl | rfl | rfl | rfl
          · have hov : ¬ 9223372036854775807 < S.size + (bz [70]).size := by omega
            go_upto_region 7 with (go_at_call 32; refine (HC.out _).mono ?_; rintro e w1 ⟨rfl, hb1⟩; replace hB := hB.trans (hb1.mono hB.size); replace p1 := (hb1.cell (World.block_lt_of_cell? _ _ p1)).trans p1; replace p2 := (hb1.cell (World.block_lt_of_cell? _ _ p2)).trans p2; clear hb1 q)
            refine wp_region_calm0 (by kernel_rfl) (by kernel_rfl) fun M => ?_
            have e1 := fun n : In M.w => n.cell (M.cell p1)
            repeat (go_big_quiet_step (fail))
            refine wpQuiet_nil ?_
            intro w2 hb2
            replace hB := hB.trans (hb2.mono hB.size)
            clear hb2 e1 p1 p2 M
            go_wp2
            go_roundw
            case rel => exact ⟨k + 1, _, by omega, by go_num, rfl, by rw [HS.out, HU.out, bz_app]; rfl, hB⟩
            case measure => simp [intOf]; omega
          · have hov : ¬ 9223372036854775807 < S.size + (bz [66]).size := by omega
            go_upto_region 7 with (go_at_call 32; refine (HC.out _).mono ?_; rintro e w1 ⟨rfl, hb1⟩; replace hB := hB.trans (hb1.mono hB.size); replace p1 := (hb1.cell (World.block_lt_of_cell? _ _ p1)).trans p1; replace p2 := (hb1.cell (World.block_lt_of_cell? _ _ p2)).trans p2; clear hb1 q)
            refine wp_region_calm0 (by kernel_rfl) (by kernel_rfl) fun M => ?_
            have e1 := fun n : In M.w => n.cell (M.cell p1)
            repeat (go_big_quiet_step (fail))
            refine wpQuiet_nil ?_
            intro w2 hb2
            replace hB := hB.trans (hb2.mono hB.size)
            clear hb2 e1 p1 p2 M
            go_wp2
            go_roundw
            case rel => exact ⟨k + 1, _, by omega, by go_num, rfl, by rw [HS.out, HU.out, bz_app]; rfl, hB⟩
            case measure => simp [intOf]; omega
          · have hov : ¬ 9223372036854775807 < S.size + (bz [76]).size := by omega
            go_upto_region 7 with (go_at_call 32; refine (HC.out _).mono ?_; rintro e w1 ⟨rfl, hb1⟩; replace hB := hB.trans (hb1.mono hB.size); replace p1 := (hb1.cell (World.block_lt_of_cell? _ _ p1)).trans p1; replace p2 := (hb1.cell (World.block_lt_of_cell? _ _ p2)).trans p2; clear hb1 q)
            refine wp_region_calm0 (by kernel_rfl) (by kernel_rfl) fun M => ?_
            have e1 := fun n : In M.w => n.cell (M.cell p1)
            repeat (go_big_quiet_step (fail))
            refine wpQuiet_nil ?_
            intro w2 hb2
            replace hB := hB.trans (hb2.mono hB.size)
            clear hb2 e1 p1 p2 M
            go_wp2
            go_roundw
            case rel => exact ⟨k + 1, _, by omega, by go_num, rfl, by rw [HS.out, HU.out, bz_app]; rfl, hB⟩
            case measure => simp [intOf]; omega
          · have hov : ¬ 9223372036854775807 < S.size + (bz [82]).size := by omega
            go_upto_region 7 with (go_at_call 32; refine (HC.out _).mono ?_; rintro e w1 ⟨rfl, hb1⟩; replace hB := hB.trans (hb1.mono hB.size); replace p1 := (hb1.cell (World.block_lt_of_cell? _ _ p1)).trans p1; replace p2 := (hb1.cell (World.block_lt_of_cell? _ _ p2)).trans p2; clear hb1 q)
            refine wp_region_calm0 (by kernel_rfl) (by kernel_rfl) fun M => ?_
            have e1 := fun n : In M.w => n.cell (M.cell p1)
            repeat (go_big_quiet_step (fail))
            refine wpQuiet_nil ?_
            intro w2 hb2
            replace hB := hB.trans (hb2.mono hB.size)
            clear hb2 e1 p1 p2 M
            go_wp2
            go_roundw
            case rel => exact ⟨k + 1, _, by omega, by go_num, rfl, by rw [HS.out, HU.out, bz_app]; rfl, hB⟩
            case measure => simp [intOf]; omega
        · have hc2 : 1 < c := by omega
          have hfin : ∀ b : UInt8, bz [b] ++ bz (pl c) = bz (b :: pl c) := fun b => bz_app [b] (pl c)
          rcases hkinds with rfl | rfl | rfl | rfl
          · have hov : ¬ 9223372036854775807 < S.size + (bz [70]).size := by omega
            have hov2 : ¬ 9223372036854775807 < (S ++ bz [70]).size + (bz (pl c)).size := by rw [ByteArray.size_append]; omega
            go_upto_region 7 with (go_at_call 32; refine (HC.out _).mono ?_; rintro e w1 ⟨rfl, hb1⟩; replace hB := hB.trans (hb1.mono hB.size); replace p1 := (hb1.cell (World.block_lt_of_cell? _ _ p1)).trans p1; replace p2 := (hb1.cell (World.block_lt_of_cell? _ _ p2)).trans p2; clear hb1 q)
            refine wp_region_calm0 (by kernel_rfl) (by kernel_rfl) fun M => ?_
            have e1 := fun n : In M.w => n.cell (M.cell p1)
            repeat (go_big_quiet_step (fail))
            refine wpQuiet_nil ?_
            intro w2 hb2
            replace hB := hB.trans (hb2.mono hB.size)
            clear hb2 e1 p1 p2 M
            go_wp2_with (go_at_call 33; refine (HP.out _).mono ?_; rintro e w3 ⟨rfl, rfl⟩)
            go_roundw
            case rel => exact ⟨k + 1, _, by omega, by go_num, rfl, by rw [HS.out, HU.out, if_neg hc1, ByteArray.append_assoc, hfin, bz_app]; rfl, hB⟩
            case measure => simp [intOf]; omega
          · have hov : ¬ 9223372036854775807 < S.size + (bz [66]).size := by omega
            have hov2 : ¬ 9223372036854775807 < (S ++ bz [66]).size + (bz (pl c)).size := by rw [ByteArray.size_append]; omega
            go_upto_region 7 with (go_at_call 32; refine (HC.out _).mono ?_; rintro e w1 ⟨rfl, hb1⟩; replace hB := hB.trans (hb1.mono hB.size); replace p1 := (hb1.cell (World.block_lt_of_cell? _ _ p1)).trans p1; replace p2 := (hb1.cell (World.block_lt_of_cell? _ _ p2)).trans p2; clear hb1 q)
            refine wp_region_calm0 (by kernel_rfl) (by kernel_rfl) fun M => ?_
            have e1 := fun n : In M.w => n.cell (M.cell p1)
            repeat (go_big_quiet_step (fail))
            refine wpQuiet_nil ?_
            intro w2 hb2
            replace hB := hB.trans (hb2.mono hB.size)
            clear hb2 e1 p1 p2 M
            go_wp2_with (go_at_call 33; refine (HP.out _).mono ?_; rintro e w3 ⟨rfl, rfl⟩)
            go_roundw
            case rel => exact ⟨k + 1, _, by omega, by go_num, rfl, by rw [HS.out, HU.out, if_neg hc1, ByteArray.append_assoc, hfin, bz_app]; rfl, hB⟩
            case measure => simp [intOf]; omega
          · have hov : ¬ 9223372036854775807 < S.size + (bz [76]).size := by omega
            have hov2 : ¬ 9223372036854775807 < (S ++ bz [76]).size + (bz (pl c)).size := by rw [ByteArray.size_append]; omega
            go_upto_region 7 with (go_at_call 32; refine (HC.out _).mono ?_; rintro e w1 ⟨rfl, hb1⟩; replace hB := hB.trans (hb1.mono hB.size); replace p1 := (hb1.cell (World.block_lt_of_cell? _ _ p1)).trans p1; replace p2 := (hb1.cell (World.block_lt_of_cell? _ _ p2)).trans p2; clear hb1 q)
            refine wp_region_calm0 (by kernel_rfl) (by kernel_rfl) fun M => ?_
            have e1 := fun n : In M.w => n.cell (M.cell p1)
            repeat (go_big_quiet_step (fail))
            refine wpQuiet_nil ?_
            intro w2 hb2
            replace hB := hB.trans (hb2.mono hB.size)
            clear hb2 e1 p1 p2 M
            go_wp2_with (go_at_call 33; refine (HP.out _).mono ?_; rintro e w3 ⟨rfl, rfl⟩)
            go_roundw
            case rel => exact ⟨k + 1, _, by omega, by go_num, rfl, by rw [HS.out, HU.out, if_neg hc1, ByteArray.append_assoc, hfin, bz_app]; rfl, hB⟩
            case measure => simp [intOf]; omega
          · have hov : ¬ 9223372036854775807 < S.size + (bz [82]).size := by omega
            have hov2 : ¬ 9223372036854775807 < (S ++ bz [82]).size + (bz (pl c)).size := by rw [ByteArray.size_append]; omega
            go_upto_region 7 with (go_at_call 32; refine (HC.out _).mono ?_; rintro e w1 ⟨rfl, hb1⟩; replace hB := hB.trans (hb1.mono hB.size); replace p1 := (hb1.cell (World.block_lt_of_cell? _ _ p1)).trans p1; replace p2 := (hb1.cell (World.block_lt_of_cell? _ _ p2)).trans p2; clear hb1 q)
            refine wp_region_calm0 (by kernel_rfl) (by kernel_rfl) fun M => ?_
            have e1 := fun n : In M.w => n.cell (M.cell p1)
            repeat (go_big_quiet_step (fail))
            refine wpQuiet_nil ?_
            intro w2 hb2
            replace hB := hB.trans (hb2.mono hB.size)
            clear hb2 e1 p1 p2 M
            go_wp2_with (go_at_call 33; refine (HP.out _).mono ?_; rintro e w3 ⟨rfl, rfl⟩)
            go_roundw
            case rel => exact ⟨k + 1, _, by omega, by go_num, rfl, by rw [HS.out, HU.out, if_neg hc1, ByteArray.append_assoc, hfin, bz_app]; rfl, hB⟩
            case measure => simp [intOf]; omega
    · go_wp2
      go_ret
      have e := hS
      rw [List.take_of_length_le (by omega)] at e
      exact ⟨ret_string e, hB⟩
end Go.Proofs.Ytibeljppjaenbaa
