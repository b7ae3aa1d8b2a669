/- The walk of the law GaussTexts. -/
import Derived.Test.YtnhebjdimhkbmaaGaussLaw
namespace Go.Proofs.Ytnhebjdimhkbmaa
open Go.RowKit

theorem ptx_size (x y : Int) : (⟨(ptx x y).toArray⟩ : ByteArray).size ≤ 1000000 := by
  rw [Lib.size_eq]
  have := pl_len x
  have := pl_len y
  unfold ptx
  simp
  omega

set_option maxHeartbeats 4000000 in
set_option maxRecDepth 100000 in
theorem gaussTexts_any (p1 p2 : Int) (s : ByteArray) (w : World) (hw : w.ShapedOpen Try.prog) (h1 : Is64 p1) (h2 : Is64 p2) :
    Calls Try.prog 5 #[.agg #[.int .i64 p1, .int .i64 p2], .string s] w fun e w' => e = .returned (.bool true) ∧ Below w.heap.size w w' := by
  have hB : Below w.heap.size w (w.alloc (.cells #[.int .i64 p1, .int .i64 p2] 23)) := (Below.refl _ _).alloc (Nat.le_refl _) _
  by_cases hs : 100 < s.size
  · go_enter Try.func5, Try.ntmps5
    go_wp2_with (go_at_call 18; refine (galive_any _).mono ?_; rintro e w1 ⟨rfl, hb⟩; replace hB := hB.trans (hb.mono hB.size); clear hb)
    go_ret
    exact ⟨rfl, hB⟩
  · obtain ⟨X, Y, ok, hpt⟩ := ptIs_ex s.data.toList
    have hpp := ptIs_ptx h1 h2
    obtain ⟨h11, h12⟩ := h1
    obtain ⟨h21, h22⟩ := h2
    have hs2 : s.size ≤ 1000000 := by omega
    have A1 := Lib.hid (fun w hw => gparse_as s X Y ok w hw hs2 hpt)
    have A2 := Lib.hid (fun w => refGparse_as s X Y ok w hs2 hpt)
    have A3 := Lib.hid (fun w hw => gparse_as ⟨(ptx p1 p2).toArray⟩ p1 p2 true w hw (ptx_size p1 p2) (by simpa using hpp))
    have HW := Lib.hid hw
    have C0 := Cell2.new w (.int .i64 p1) (.int .i64 p2) 23
    clear hpt hpp hw
    go_enter Try.func5, Try.ntmps5
    go_wp2_with (first
      | (go_at_call 27; ((with_reducible refine (A1.out _ (shaped_kept HW.out hB)).mono ?_); rintro e w1 ⟨rfl, hb⟩; replace hB := hB.trans (hb.mono hB.size); replace C0 := (C0.kept hb).alloc (.cells #[.int .i64 X, .int .i64 Y] 23); clear hb; replace hB := hB.alloc hB.size (.cells #[.int .i64 X, .int .i64 Y] 23); have C1 := Cell2.new w1 (.int .i64 X) (.int .i64 Y) 23))
      | (go_at_call 28; refine (A2.out _).mono ?_; rintro e w2 ⟨rfl, hb⟩; replace hB := hB.trans (hb.mono hB.size); replace C0 := (C0.kept hb).alloc (.cells #[.int .i64 X, .int .i64 Y] 23); replace C1 := (C1.kept hb).alloc (.cells #[.int .i64 X, .int .i64 Y] 23); clear hb; replace hB := hB.alloc hB.size (.cells #[.int .i64 X, .int .i64 Y] 23); have C2 := Cell2.new w2 (.int .i64 X) (.int .i64 Y) 23; have d0 := C0.c0; have d1 := C0.c1)
      | (go_at_call 29; refine (text_any _ _ _ (by assumption) (by assumption) (by assumption) (by assumption)).mono ?_; rintro e w3 ⟨rfl, hb⟩; replace hB := hB.trans (hb.mono hB.size); replace C0 := C0.kept hb; replace C1 := C1.kept hb; replace C2 := C2.kept hb; clear hb d0 d1)
      | (go_at_call 27; ((with_reducible refine (A3.out _ (shaped_kept HW.out hB)).mono ?_); rintro e w4 ⟨rfl, hb⟩; replace hB := hB.trans (hb.mono hB.size); replace C0 := (C0.kept hb).alloc (.cells #[.int .i64 p1, .int .i64 p2] 23); replace C1 := (C1.kept hb).alloc (.cells #[.int .i64 p1, .int .i64 p2] 23); replace C2 := (C2.kept hb).alloc (.cells #[.int .i64 p1, .int .i64 p2] 23); clear hb; replace hB := hB.alloc hB.size (.cells #[.int .i64 p1, .int .i64 p2] 23); have C3 := Cell2.new w4 (.int .i64 p1) (.int .i64 p2) 23)))
    refine wp_region_calm0 (by kernel_rfl) (by kernel_rfl) fun M => ?_
    have e0 := fun n : In M.w => n.cell (M.cell C0.c0)
    have e1 := fun n : In M.w => n.cell (M.cell C0.c1)
    have e2 := fun n : In M.w => n.cell (M.cell C1.c0)
    have e3 := fun n : In M.w => n.cell (M.cell C1.c1)
    have e4 := fun n : In M.w => n.cell (M.cell C2.c0)
    have e5 := fun n : In M.w => n.cell (M.cell C2.c1)
    have e6 := fun n : In M.w => n.cell (M.cell C3.c0)
    have e7 := fun n : In M.w => n.cell (M.cell C3.c1)
    clear C0 C1 C2 C3
    repeat (go_big_quiet_step (first
      | (go_at_call 29; exact In.call (text_any _ _ _ (by assumption) (by assumption) (by assumption) (by assumption)))
      | (go_at_call 30; exact In.call (refText_any _ _ _ (by assumption) (by assumption) (by assumption) (by assumption)))
      | (go_at_call 18; exact In.call (galive_any _))))
    refine wpQuiet_nil ?_
    intro w9 hb
    replace hB := hB.trans (hb.mono hB.size)
    clear hb e0 e1 e2 e3 e4 e5 e6 e7 M
    go_wp2
    go_ret
    exact ⟨rfl, hB⟩
end Go.Proofs.Ytnhebjdimhkbmaa
