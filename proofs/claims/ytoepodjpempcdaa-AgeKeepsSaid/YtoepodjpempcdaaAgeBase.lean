/- What the laws of layer 14 lean on: the program's contracts. -/
import Derived.Test.YtoepodjpempcdaaAgeC
namespace Go.Proofs.Ytoepodjpempcdaa
open Go.RowKit

set_option maxHeartbeats 2000000 in
set_option maxRecDepth 100000 in
theorem aAlive_any (W : World) : Calls Try.prog 13 #[] W fun e w' => e = .returned (.bool true) ∧ Below W.heap.size W w' := by
  have h1 : ∀ W, Calls Try.prog 7 #[.agg #[.int .i64 1, .int .i64 5, .int .i64 10, .int .i64 0], .int .i64 13, .int .i64 2] W fun e w' => e = .returned (.int .i64 11) ∧ Below W.heap.size W w' := fun W => by
    have := aOf_any ⟨1, 5, 10, 0⟩ 13 2 W
    rwa [show ofA ⟨1, 5, 10, 0⟩ 13 2 = 11 by decide +kernel] at this
  have h2 : ∀ W, Calls Try.prog 7 #[.agg #[.int .i64 1, .int .i64 5, .int .i64 10, .int .i64 0], .int .i64 1099511627776, .int .i64 1099511627776] W fun e w' => e = .returned (.int .i64 1048575) ∧ Below W.heap.size W w' := fun W => by
    have := aOf_any ⟨1, 5, 10, 0⟩ 1099511627776 1099511627776 W
    rwa [show ofA ⟨1, 5, 10, 0⟩ 1099511627776 1099511627776 = 1048575 by decide +kernel] at this
  have h3 : ∀ W, Calls Try.prog 9 #[.agg #[.int .i64 0, .int .i64 1048572, .int .i64 4, .int .i64 0], .int .i64 2] W fun e w' => e = .returned (.int .i64 6) ∧ Below W.heap.size W w' := fun W => by
    have := aFull_any ⟨0, 1048572, 4, 0⟩ 2 W
    rwa [show fullA ⟨0, 1048572, 4, 0⟩ 2 = 6 by decide +kernel] at this
  have h4 : ∀ W, Calls Try.prog 11 #[.agg #[.int .i64 1, .int .i64 5, .int .i64 10, .int .i64 0], .agg #[.int .i64 2, .int .i64 4, .int .i64 10, .int .i64 0], .int .i64 10, .int .i64 1] W fun e w' => e = .returned (.bool true) ∧ Below W.heap.size W w' := fun W => by
    have := aAhead_any ⟨1, 5, 10, 0⟩ ⟨2, 4, 10, 0⟩ 10 1 W
    rwa [show ahA ⟨1, 5, 10, 0⟩ ⟨2, 4, 10, 0⟩ 10 1 = true by decide +kernel] at this
  have H1 := Lib.hid h1
  have H2 := Lib.hid h2
  have H3 := Lib.hid h3
  have H4 := Lib.hid h4
  have hX := Blk.new W [.int .i64 1, .int .i64 5, .int .i64 10, .int .i64 0] 23
  have HB := Lib.hid ((Below.refl W.heap.size W).alloc (Nat.le_refl _) (.cells #[.int .i64 1, .int .i64 5, .int .i64 10, .int .i64 0] 23))
  have c0 := hX.cell 0 rfl
  have c1 := hX.cell 1 rfl
  have c2 := hX.cell 2 rfl
  have c3 := hX.cell 3 rfl
  have HX := Lib.hid hX
  clear h1 h2 h3 h4 hX
  go_enter Try.func13, Try.ntmps13
  go_wp2_with (first
    | (go_at_call 7; (with_reducible refine (H1.out _).mono ?_); rintro e w1 ⟨rfl, hb⟩; replace HB := Lib.hid (HB.out.trans (hb.mono HB.out.size)); replace HX := Lib.hid (HX.out.kept hb); have c0 := HX.out.cell 0 rfl; have c1 := HX.out.cell 1 rfl; have c2 := HX.out.cell 2 rfl; have c3 := HX.out.cell 3 rfl; clear hb)
    | (go_at_call 7; (with_reducible refine (H2.out _).mono ?_); rintro e w1 ⟨rfl, hb⟩; replace HB := Lib.hid (HB.out.trans (hb.mono HB.out.size)); replace HX := Lib.hid (HX.out.kept hb); clear hb)
    | (go_at_call 9; (with_reducible refine (H3.out _).mono ?_); rintro e w1 ⟨rfl, hb⟩; replace HB := Lib.hid (HB.out.trans (hb.mono HB.out.size)); replace HX := Lib.hid (HX.out.kept hb); have c0 := HX.out.cell 0 rfl; have c1 := HX.out.cell 1 rfl; have c2 := HX.out.cell 2 rfl; have c3 := HX.out.cell 3 rfl; clear hb)
    | (go_at_call 11; (with_reducible refine (H4.out _).mono ?_); rintro e w1 ⟨rfl, hb⟩; replace HB := Lib.hid (HB.out.trans (hb.mono HB.out.size)); clear hb))
  go_ret
  exact ⟨rfl, HB.out⟩
end Go.Proofs.Ytoepodjpempcdaa
