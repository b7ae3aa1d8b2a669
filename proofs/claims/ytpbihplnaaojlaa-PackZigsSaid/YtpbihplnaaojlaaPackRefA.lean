/- The walks of the document's answers for layer 8: rows that are the same, signs. -/
import Derived.Test.YtpbihplnaaojlaaBytes
import Derived.Test.YtpbihplnaaojlaaPackMath
import Derived.Lib.Hide
namespace Go.Proofs.Ytpbihplnaaojlaa
open Go.RowKit

theorem ret_b8 {a b : Bool} (h : a = b) : Ending.returned (.bool a) = .returned (.bool b) := by rw [h]
theorem refBSame_any (va vb : Value) (l r : List UInt8) (w : World) (ha : BytesAt w va l) (hb : BytesAt w vb r) :
    Calls Try.prog 10 #[va, vb] w fun e w' => e = .returned (.bool (decide (l = r))) ∧ w = w' := by
  have h1 := str_of_bytes ha
  have h2 := str_of_bytes hb
  obtain ⟨a, c, rfl⟩ := RowsAt.form ha
  obtain ⟨a', c', rfl⟩ := RowsAt.form hb
  clear ha hb
  go_enter Try.func10, Try.ntmps10
  go_wp2
  go_ret
  exact ⟨ret_b8 (by rw [Bool.eq_iff_iff]; simp), rfl⟩

theorem refZig_any (n : Int) (w : World) (hn : -9223372036854775808 ≤ n ∧ n ≤ 9223372036854775807) :
    Calls Try.prog 18 #[.int .i64 n] w fun e w' => e = .returned (.int .u64 (zig n)) ∧ w = w' := by
  unfold zig
  by_cases h : 0 ≤ n
  · rw [if_pos h]
    go_enter Try.func18, Try.ntmps18
    go_wp2
    go_ret
    exact ⟨rfl, rfl⟩
  · rw [if_neg h]
    go_enter Try.func18, Try.ntmps18
    go_wp2
    go_ret
    exact ⟨rfl, rfl⟩
theorem refUnzig_any (n : Int) (w : World) (hn : 0 ≤ n ∧ n < 18446744073709551616) :
    Calls Try.prog 20 #[.int .u64 n] w fun e w' => e = .returned (.int .i64 (unzig n)) ∧ w = w' := by
  unfold unzig
  by_cases h : n % 2 = 0
  · rw [if_pos h]
    go_enter Try.func20, Try.ntmps20
    go_wp2
    go_ret
    exact ⟨rfl, rfl⟩
  · rw [if_neg h]
    go_enter Try.func20, Try.ntmps20
    go_wp2
    go_ret
    exact ⟨rfl, rfl⟩
end Go.Proofs.Ytpbihplnaaojlaa
