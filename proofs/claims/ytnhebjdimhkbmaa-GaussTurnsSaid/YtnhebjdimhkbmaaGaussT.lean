/- The walks of gauss.Text and Parse, of the document's answers for them, and of the law's alive. -/
import Derived.Test.YtnhebjdimhkbmaaGaussS
import Derived.Test.YtnhebjdimhkbmaaRefParse
namespace Go.Proofs.Ytnhebjdimhkbmaa
open Go.RowKit

theorem shaped_kept {P : Program} {w w' : World} (h : w.ShapedOpen P) (hb : Below w.heap.size w w') : w'.ShapedOpen P :=
  h.keptBut (hb.frame (fun _ => False)) (fun _ h => h.elim)

/-- a point as a text -/
def ptx (x y : Int) : List UInt8 := pl x ++ 44 :: pl y
theorem pl_size (n : Int) : (⟨(pl n).toArray⟩ : ByteArray).size ≤ 21 := by
  rw [Lib.size_eq]; simpa using pl_len n
theorem ptx_app (x y : Int) : (⟨(pl x).toArray⟩ : ByteArray) ++ ⟨#[44]⟩ ++ ⟨(pl y).toArray⟩ = ⟨(ptx x y).toArray⟩ := by
  have e : (⟨#[44]⟩ : ByteArray) = ⟨[(44 : UInt8)].toArray⟩ := rfl
  rw [e, ba_app, ba_app]
  unfold ptx
  simp

theorem text_any (x y : Int) (w : World) (hx : -9223372036854775808 ≤ x) (hx' : x ≤ 9223372036854775807) (hy : -9223372036854775808 ≤ y) (hy' : y ≤ 9223372036854775807) :
    Calls Try.prog 29 #[.agg #[.int .i64 x, .int .i64 y]] w fun e w' => e = .returned (.string ⟨(ptx x y).toArray⟩) ∧ Below w.heap.size w w' := by
  have l1 := pl_size x
  have l2 := pl_size y
  have m1 : ¬ 9223372036854775807 < (pl x).length + 1 := by have := pl_len x; omega
  have m2 : ¬ 9223372036854775807 < (pl x).length + 1 + (pl y).length := by have := pl_len x; have := pl_len y; omega
  have HP := Lib.hid (ptx_app x y)
  have hB : Below w.heap.size w (w.alloc (.cells #[.int .i64 x, .int .i64 y] 23)) := (Below.refl _ _).alloc (Nat.le_refl _) _
  go_enter Try.func29, Try.ntmps29
  go_wp2
  refine wp_region_calm0 (by kernel_rfl) (by kernel_rfl) fun M => ?_
  have hc0 : ∀ n : In M.w, n.w.cell? ⟨w.heap.size, 0, none⟩ = some (.int .i64 x) := fun n => n.cell (M.cell (by go_simp))
  have hc1 : ∀ n : In M.w, n.w.cell? ⟨w.heap.size, 1, none⟩ = some (.int .i64 y) := fun n => n.cell (M.cell (by go_simp))
  repeat (go_big_quiet_step ((go_at_call 43; exact In.call (print_any _ _ (by assumption) (by assumption)))))
  refine wpQuiet_nil ?_
  intro w2 hb
  replace hB := hB.trans (hb.mono hB.size)
  clear hb hc0 hc1 M
  go_wp2
  go_ret
  exact ⟨ret_string HP.out, hB⟩

theorem refText_any (x y : Int) (w : World) (hx : -9223372036854775808 ≤ x) (hx' : x ≤ 9223372036854775807) (hy : -9223372036854775808 ≤ y) (hy' : y ≤ 9223372036854775807) :
    Calls Try.prog 30 #[.agg #[.int .i64 x, .int .i64 y]] w fun e w' => e = .returned (.string ⟨(ptx x y).toArray⟩) ∧ Below w.heap.size w w' := by
  have l1 := pl_size x
  have l2 := pl_size y
  have m1 : ¬ 9223372036854775807 < (pl x).length + 1 := by have := pl_len x; omega
  have m2 : ¬ 9223372036854775807 < (pl x).length + 1 + (pl y).length := by have := pl_len x; have := pl_len y; omega
  have HP := Lib.hid (ptx_app x y)
  have hB : Below w.heap.size w (w.alloc (.cells #[.int .i64 x, .int .i64 y] 23)) := (Below.refl _ _).alloc (Nat.le_refl _) _
  go_enter Try.func30, Try.ntmps30
  go_wp2
  refine wp_region_calm0 (by kernel_rfl) (by kernel_rfl) fun M => ?_
  have hc0 : ∀ n : In M.w, n.w.cell? ⟨w.heap.size, 0, none⟩ = some (.int .i64 x) := fun n => n.cell (M.cell (by go_simp))
  have hc1 : ∀ n : In M.w, n.w.cell? ⟨w.heap.size, 1, none⟩ = some (.int .i64 y) := fun n => n.cell (M.cell (by go_simp))
  repeat (go_big_quiet_step ((go_at_call 44; exact In.call_same (refPrint_any _ _ (by assumption) (by assumption)))))
  refine wpQuiet_nil ?_
  intro w2 hb
  replace hB := hB.trans (hb.mono hB.size)
  clear hb hc0 hc1 M
  go_wp2
  go_ret
  exact ⟨ret_string HP.out, hB⟩

end Go.Proofs.Ytnhebjdimhkbmaa
