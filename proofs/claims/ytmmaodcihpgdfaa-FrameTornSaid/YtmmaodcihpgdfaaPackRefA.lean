/- The walks of the document's answers for layer 8: rows that are the same, signs. -/
import Derived.Test.YtmmaodcihpgdfaaBytes
import Derived.Test.YtmmaodcihpgdfaaPackMath
import Derived.Lib.Hide
namespace Go.Proofs.Ytmmaodcihpgdfaa
open Go.RowKit

theorem ret_b8 {a b : Bool} (h : a = b) : Ending.returned (.bool a) = .returned (.bool b) := by rw [h]
theorem refBSame_any (va vb : Value) (l r : List UInt8) (w : World) (ha : BytesAt w va l) (hb : BytesAt w vb r) :
    Calls Try.prog 10 #[va, vb] w fun e w' => e = .returned (.bool (decide (l = r))) ∧ w = w' := by
  have h1 := str_of_bytes ha
  have h2 := str_of_bytes hb
  obtain ⟨a, c, rfl⟩ := RowsAt.form ha
  obtain ⟨a', c', rfl⟩ := RowsAt.form hb
  clear ha hb
  go_enter Try.func10, Try.ntmps10
  go_wp2
  go_ret
  exact ⟨ret_b8 (by rw [Bool.eq_iff_iff]; simp), rfl⟩

end Go.Proofs.Ytmmaodcihpgdfaa
