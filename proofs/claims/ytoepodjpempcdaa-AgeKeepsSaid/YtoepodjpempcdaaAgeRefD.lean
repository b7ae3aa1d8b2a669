/- Stage 14: the document's Sort. -/
import Derived.Test.YtoepodjpempcdaaAgeRefC
import Derived.Test.YtoepodjpempcdaaOneI
namespace Go.Proofs.Ytoepodjpempcdaa
open Go.RowKit

def idsA (l : List It) : List Int := l.map It.id
theorem idsA_take (l : List It) (k : Nat) (hk : k < l.length) : idsA (l.take (k + 1)) = idsA (l.take k) ++ [l[k].id] := by
  unfold idsA
  rw [List.take_succ_eq_append_getElem hk, List.map_append]
  rfl
theorem idsA_len (l : List It) : (idsA l).length = l.length := List.length_map ..

set_option maxHeartbeats 4000000 in
set_option maxRecDepth 100000 in
theorem refSort14_any (va : Value) (l : List It) (now rate : Int) (W : World) (ha : ItAt W va l) (hl : l.length ≤ 100000) :
    Calls Try.prog 16 #[va, .int .i64 now, .int .i64 rate] W fun e w' => ∃ v, e = .returned v ∧ OwnI w' W.heap.size v (idsA (ordA l now rate)) ∧ Below W.heap.size W w' := by
  obtain ⟨i0, hi, hz0, hz1, hz2⟩ := info_parts info_int
  have HC := Lib.hid (refOrder_any va l now rate W ha hl)
  have hol := ordA_len now rate l
  obtain ⟨O, hO⟩ : ∃ O, ordA l now rate = O := ⟨_, rfl⟩
  rw [hO] at HC hol ⊢
  have hOl : O.length ≤ 100000 := by omega
  obtain ⟨a, c, rfl⟩ := RowsAt.form ha
  clear ha hO hol
  go_enter Try.func16, Try.ntmps16
  go_upto_region 3 with (go_at_call 32; (with_reducible refine HC.out.mono ?_); rintro e w1 ⟨v1, rfl, ho1, hb1⟩; obtain ⟨a1, d1, rfl⟩ := RowsAt.form (OwnR.rows csI4_len ho1); have HA := Lib.hid (OwnR.rows csI4_len ho1); have HB1 := Lib.hid hb1; clear ho1 hb1)
  go_wp2
  go_loopw [7, 9] (fun ov iv wr => ∃ k : Nat, k ≤ O.length ∧ iv = .int .i64 k ∧ OwnI wr w1.heap.size ov (idsA (O.take k)) ∧ Below w1.heap.size w1 wr) (fun _ iv _ => O.length - (intOf iv).toNat)
  case atStart => exact ⟨0, by omega, rfl, OwnR.nil _ _ _ _ _, Below.refl _ _⟩
  case round =>
    obtain ⟨k, hk, rfl, ho, hB⟩ := hrel
    by_cases hlt : k < O.length
    · obtain ⟨g, o, cc, e, _, _, p0, _, _, _⟩ := ItAt.at (RowsAt.kept HA.out hB) k hlt
      injection e with e1 e2 e3
      subst e1
      clear e2
      subst e3
      have hnx := idsA_take O k hlt
      have hil := idsA_len (O.take k)
      rw [List.length_take] at hil
      have k0 : (0 : Int) ≤ (k : Int) := by omega
      have k1 : (k : Int) < (O.length : Int) := by omega
      generalize O[k].id = y at *
      have HNX := Lib.hid hnx
      have HO := Lib.hid (OwnR.alloc ho (.cells #[.int .i64 y] 3))
      have HP := Lib.hid (oneI13 wr y)
      have HB := Lib.hid (hB.alloc hB.size (.cells #[.int .i64 y] 3))
      have HIL := Lib.hid (show (idsA (O.take k)).length ≤ 1000000 by omega)
      clear hnx ho hB hil
      go_wp2_with (at_builtin; refine wpList_append_rows csI_len (by decide) csI_one13 rfl _ _ 30 rfl w1.heap.size 3 i0 (.int .i64 0) 8 Try.underlying30 hi hz0 hz1 hz2 rfl _ _ rfl HO.out _ [y] rfl HP.out (by have := HIL.out; unfold maxLen; simp; omega) (by have := HIL.out; simp; omega) HB.out.size ?_; intro v2 w2 o2 g2; have HO2 := Lib.hid o2; have HB2 := Lib.hid (OwnR.below HO.out HB.out HB.out.size g2); clear o2 g2)
      go_roundw
      case rel => exact ⟨k + 1, by omega, by go_num, by rw [HNX.out]; exact HO2.out, HB2.out⟩
      case measure => simp [intOf] <;> omega
    · have hke : k = O.length := by omega
      subst hke
      rw [List.take_length] at ho
      have HO := Lib.hid ho
      clear ho
      go_wp2
      go_ret
      exact ⟨_, rfl, OwnR.base13 HO.out HB1.out.size, HB1.out.trans (hB.mono HB1.out.size)⟩
end Go.Proofs.Ytoepodjpempcdaa
