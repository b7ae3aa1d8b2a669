/- The walks of the document's answers for layer 8: short forms. -/
import Derived.Test.YtpbihplnaaojlaaPackRefC
namespace Go.Proofs.Ytpbihplnaaojlaa
open Go.RowKit

theorem varL_ten {x : Nat} (h : x < 18446744073709551616) : (varL x).length ≤ 10 := varL_len 9 x (Nat.lt_of_lt_of_le h (by decide))

set_option maxHeartbeats 2000000 in
set_option maxRecDepth 100000 in
theorem refVar_any (va : Value) (l : List UInt8) (x : Nat) (w : World) (ha : BytesAt w va l) (hl : l.length ≤ 1000000) (hx : x < 18446744073709551616) :
    Calls Try.prog 16 #[va, .int .u64 (x : Int)] w fun e w' => ∃ v, e = .returned v ∧ BytesAt w' v (l ++ bn (varL x)) ∧ Below w.heap.size w w' := by
  obtain ⟨i0, hi, hz0, hz1, hz2⟩ := info_parts info_byte
  have ho := ownb_empty w
  have hB := (Below.refl w.heap.size w).alloc (Nat.le_refl _) (.cells #[] 5)
  have hA1 := ha.kept hB
  obtain ⟨a, c, rfl⟩ := RowsAt.form ha
  have hten := varL_ten hx
  have HT := Lib.hid hten
  clear ha hten
  go_enter Try.func16, Try.ntmps16
  go_wp2_with (at_builtin; refine wpList_append_rows csB_len (by decide) csB_one rfl _ _ 22 rfl w.heap.size 5 i0 (.int .u8 0) 1 Try.underlying22 hi hz0 hz1 hz2 rfl _ _ rfl ho _ _ rfl hA1 (by unfold maxLen; simp; omega) (by simp; omega) (by simp) ?_)
  intro v0 w1 o1 g1
  have hB1 := OwnR.below ho hB (by simp) g1
  replace o1 : OwnB w1 w.heap.size v0 l := o1
  have HO1 := Lib.hid o1
  clear ho hB g1 o1 hA1
  go_wp2
  go_loopw [1, 5] (fun xv v wr => ∃ (y : Nat) (pre : List Nat), y ≤ x ∧ xv = .int .u64 (y : Int) ∧ pre ++ varL y = varL x ∧ OwnB wr w.heap.size v (l ++ bn pre) ∧ Below w.heap.size w wr) (fun xv _ _ => (intOf xv).toNat)
  case atStart => exact ⟨x, [], Nat.le_refl _, rfl, rfl, by rw [show l ++ bn [] = l by simp [bn]]; exact HO1.out, hB1⟩
  case round =>
    clear hB1 HO1
    obtain ⟨y, pre, hy, rfl, hpre, hown, hB⟩ := hrel
    have hsz := hB.size
    have hplen : pre.length + (varL y).length ≤ 10 := by rw [← List.length_append, hpre]; exact HT.out
    have hlen : (l ++ bn pre).length ≤ 1000010 := by rw [List.length_append, bn_len]; omega
    by_cases h128 : 128 ≤ y
    · have hv := varL_hi (show ¬ y < 128 by omega)
      rw [hv] at hpre
      have hu := byte_to (y % 128 + 128) (by omega)
      obtain ⟨ub, hub⟩ : ∃ ub, UInt8.ofNat (y % 128 + 128) = ub := ⟨_, rfl⟩
      rw [hub] at hu
      have hP := RowsAt.one1 wr ((y : Int) % 128 + 128) ub (by rw [hu]; omega)
      have HUB := Lib.hid hub
      have ho2 := hown.alloc (.cells #[.int .u8 ((y : Int) % 128 + 128)] 5)
      have hB2 := hB.alloc hsz (.cells #[.int .u8 ((y : Int) % 128 + 128)] 5)
      have hy1 : (y : Int) ≤ 18446744073709551615 := by omega
      have hy2 : (128 : Int) ≤ (y : Int) := by omega
      have HPRE := Lib.hid hpre
      clear hv hpre hu hown hub
      go_wp2_with (at_builtin; refine wpList_append_rows csB_len (by decide) csB_one rfl _ _ 22 rfl w.heap.size 5 i0 (.int .u8 0) 1 Try.underlying22 hi hz0 hz1 hz2 rfl _ _ rfl ho2 _ _ rfl hP (by show _ + 1 ≤ maxLen; unfold maxLen; omega) (by show (_ + 1) * 1 ≤ _; omega) hB2.size ?_)
      intro v' w5 h1 h2
      have hB5 := OwnR.below ho2 hB2 hB2.size h2
      have o5 : OwnB w5 w.heap.size v' (l ++ bn (pre ++ [y % 128 + 128])) := by
        rw [bn_append]
        show OwnB _ _ _ (l ++ (bn pre ++ [UInt8.ofNat (y % 128 + 128)]))
        rw [HUB.out]
        exact h1
      have HO5 := Lib.hid o5
      clear h1 h2 ho2 hB2 hP hB o5
      go_wp2
      go_roundw
      case rel => exact ⟨y / 128, pre ++ [y % 128 + 128], by omega, by go_num, by rw [List.append_assoc]; exact HPRE.out, HO5.out, hB5⟩
      case measure => simp [intOf] <;> omega
    · have hv := varL_lo (show y < 128 by omega)
      rw [hv] at hpre
      have hu := byte_to y (by omega)
      obtain ⟨ub, hub⟩ : ∃ ub, UInt8.ofNat y = ub := ⟨_, rfl⟩
      rw [hub] at hu
      have hP := RowsAt.one1 wr (y : Int) ub (by rw [hu])
      have HUB := Lib.hid hub
      have ho2 := hown.alloc (.cells #[.int .u8 (y : Int)] 5)
      have hB2 := hB.alloc hsz (.cells #[.int .u8 (y : Int)] 5)
      have hy1 : (y : Int) < 128 := by omega
      have HPRE := Lib.hid hpre
      clear hv hpre hu hown hub
      go_wp2_with (at_builtin; refine wpList_append_rows csB_len (by decide) csB_one rfl _ _ 22 rfl w.heap.size 5 i0 (.int .u8 0) 1 Try.underlying22 hi hz0 hz1 hz2 rfl _ _ rfl ho2 _ _ rfl hP (by show _ + 1 ≤ maxLen; unfold maxLen; omega) (by show (_ + 1) * 1 ≤ _; omega) hB2.size ?_)
      intro v' w5 h1 h2
      have hB5 := OwnR.below ho2 hB2 hB2.size h2
      have o5 : OwnB w5 w.heap.size v' (l ++ bn (varL x)) := by
        rw [← HPRE.out, bn_append]
        show OwnB _ _ _ (l ++ (bn pre ++ [UInt8.ofNat y]))
        rw [HUB.out]
        exact h1
      have HO5 := Lib.hid o5
      clear h1 h2 ho2 hB2 hP hB o5
      go_wp2
      go_ret
      exact ⟨_, rfl, HO5.out.bytes, hB5⟩
end Go.Proofs.Ytpbihplnaaojlaa
