/- The walks of the laws MotionDoes and MotionTimes. -/
import Derived.Test.YtgaglplionfdgaaMotionS
import Derived.Test.YtgaglplionfdgaaMotionT
import Derived.Test.YtgaglplionfdgaaMotionW
namespace Go.Proofs.Ytgaglplionfdgaa
open Go.RowKit

set_option maxHeartbeats 1000000 in
theorem malive_any (w : World) : Calls Try.prog 15 #[] w fun e w' => e = .returned (.bool true) ∧ Below w.heap.size w w' := by
  have h1 := fun w => mstill_any 2 2 0 w
  rw [show sx 2 2 0 = 1 by decide +kernel, show sy 2 2 0 = 0 by decide +kernel, show sb 2 2 0 = true by decide +kernel] at h1
  have h2 := fun w => morder_any 2 2 0 w
  rw [show mord 2 2 0 = 2 by decide +kernel] at h2
  have h3 := fun w => mdo_any 2 2 0 5 1 w
  rw [show (rot (qr 2) (fx 5) (fx 1)).1 + fx 2 = -3 by decide +kernel, show (rot (qr 2) (fx 5) (fx 1)).2 + fx 0 = -1 by decide +kernel] at h3
  have H1 := Lib.hid h1
  have H2 := Lib.hid h2
  have H3 := Lib.hid h3
  clear h1 h2 h3
  have hB : Below w.heap.size w (w.alloc (.cells #[.int .i64 2, .int .i64 2, .int .i64 0] 25)) := (Below.refl _ _).alloc (Nat.le_refl _) _
  have C0 := Cell3.new w (.int .i64 2) (.int .i64 2) (.int .i64 0) 25
  go_enter Try.func15, Try.ntmps15
  go_wp2_with (first
    | (go_at_call 24; refine (H1.out _).mono ?_; rintro e w1 ⟨rfl, hb⟩; replace hB := (hB.trans (hb.mono hB.size)); replace hB := hB.alloc hB.size (.cells #[.int .i64 1, .int .i64 0] 23); replace C0 := (C0.kept hb).alloc (.cells #[.int .i64 1, .int .i64 0] 23); have C1 := Cell2.new w1 (.int .i64 1) (.int .i64 0) 23; clear hb; have u0 := C0.c0; have u1 := C0.c1; have u2 := C0.c2; have v0 := C1.c0; have v1 := C1.c1)
    | (go_at_call 25; refine (H2.out _).mono ?_; rintro e w2 ⟨rfl, hb⟩; replace hB := (hB.trans (hb.mono hB.size)); clear u0 u1 u2 v0 v1; replace C0 := C0.kept hb; replace C1 := C1.kept hb; clear hb; have u0 := C0.c0; have u1 := C0.c1; have u2 := C0.c2; have v0 := C1.c0; have v1 := C1.c1)
    | (go_at_call 9; refine (H3.out _).mono ?_; rintro e w3 ⟨rfl, hb⟩; replace hB := (hB.trans (hb.mono hB.size)); clear hb))
  go_ret
  exact ⟨rfl, hB⟩

set_option maxHeartbeats 4000000 in
set_option maxRecDepth 100000 in
theorem motionDoes_any (n x y m u v p1 p2 : Int) (w : World) :
    Calls Try.prog 3 #[.agg #[.int .i64 n, .int .i64 x, .int .i64 y], .agg #[.int .i64 m, .int .i64 u, .int .i64 v], .agg #[.int .i64 p1, .int .i64 p2]] w fun e w' => e = .returned (.bool true) ∧ Below w.heap.size w w' := by
  have hB : Below w.heap.size w (((w.alloc (.cells #[.int .i64 n, .int .i64 x, .int .i64 y] 25)).alloc (.cells #[.int .i64 m, .int .i64 u, .int .i64 v] 25)).alloc (.cells #[.int .i64 p1, .int .i64 p2] 23)) := (((Below.refl _ _).alloc (Nat.le_refl _) _).alloc (by simp) _).alloc (by simp; omega) _
  have C0 := ((Cell3.new w (.int .i64 n) (.int .i64 x) (.int .i64 y) 25).alloc (.cells #[.int .i64 m, .int .i64 u, .int .i64 v] 25)).alloc (.cells #[.int .i64 p1, .int .i64 p2] 23)
  have C1 := (Cell3.new (w.alloc (.cells #[.int .i64 n, .int .i64 x, .int .i64 y] 25)) (.int .i64 m) (.int .i64 u) (.int .i64 v) 25).alloc (.cells #[.int .i64 p1, .int .i64 p2] 23)
  have C2 := Cell2.new ((w.alloc (.cells #[.int .i64 n, .int .i64 x, .int .i64 y] 25)).alloc (.cells #[.int .i64 m, .int .i64 u, .int .i64 v] 25)) (.int .i64 p1) (.int .i64 p2) 23
  simp only [World.size_alloc] at C0 C1 C2
  have h1 := fun w => mfix_any n x y w
  have h2 := fun w => refMFix_any n x y w
  have h3 := fun w => mdo_any n x y p1 p2 w
  have h4 := fun w => refMDo_any n x y p1 p2 w
  have h5 := fun w => mthen_any n x y m u v w
  have h6 := fun w => refMThen_any n x y m u v w
  have h7 := fun w => mback_any n x y w
  have h8 := fun w => refMBack_any n x y w
  generalize (rot (qr n) (fx p1) (fx p2)).1 + fx x = D1 at *
  generalize (rot (qr n) (fx p1) (fx p2)).2 + fx y = D2 at *
  generalize (((qr n + qr m) % 4 : Nat) : Int) = T1 at *
  generalize (rot (qr m) (fx x) (fx y)).1 + fx u = T2 at *
  generalize (rot (qr m) (fx x) (fx y)).2 + fx v = T3 at *
  generalize (((4 - qr n) % 4 : Nat) : Int) = B1 at *
  generalize (rot ((4 - qr n) % 4) (-fx x) (-fx y)).1 = B2 at *
  generalize (rot ((4 - qr n) % 4) (-fx x) (-fx y)).2 = B3 at *
  generalize ((qr n : Nat) : Int) = F1 at *
  generalize fx x = F2 at *
  generalize fx y = F3 at *
  have H1 := Lib.hid h1
  have H2 := Lib.hid h2
  have H3 := Lib.hid h3
  have H4 := Lib.hid h4
  have H5 := Lib.hid h5
  have H6 := Lib.hid h6
  have H7 := Lib.hid h7
  have H8 := Lib.hid h8
  clear h1 h2 h3 h4 h5 h6 h7 h8
  go_enter Try.func3, Try.ntmps3
  go_wp2
  refine wp_region_calm0 (by kernel_rfl) (by kernel_rfl) fun M => ?_
  have e0 := fun n : In M.w => n.cell (M.cell C0.c0)
  have e1 := fun n : In M.w => n.cell (M.cell C0.c1)
  have e2 := fun n : In M.w => n.cell (M.cell C0.c2)
  have e3 := fun n : In M.w => n.cell (M.cell C1.c0)
  have e4 := fun n : In M.w => n.cell (M.cell C1.c1)
  have e5 := fun n : In M.w => n.cell (M.cell C1.c2)
  have e6 := fun n : In M.w => n.cell (M.cell C2.c0)
  have e7 := fun n : In M.w => n.cell (M.cell C2.c1)
  repeat (go_big_quiet_step (first
    | (go_at_call 7; exact In.call (H1.out _))
    | (go_at_call 8; exact In.call (H2.out _))
    | (go_at_call 9; exact In.call (H3.out _))
    | (go_at_call 10; exact In.call (H4.out _))
    | (go_at_call 11; exact In.call (H5.out _))
    | (go_at_call 12; exact In.call (H6.out _))
    | (go_at_call 13; exact In.call (H7.out _))
    | (go_at_call 14; exact In.call (H8.out _))
    | (go_at_call 15; exact In.call (malive_any _))))
  refine wpQuiet_nil ?_
  intro w1 hb
  replace hB := hB.trans (hb.mono hB.size)
  clear hb e0 e1 e2 e3 e4 e5 e6 e7
  go_wp2
  go_ret
  exact ⟨rfl, hB⟩

set_option maxHeartbeats 4000000 in
set_option maxRecDepth 100000 in
theorem motionTimes_any (n x y c : Int) (w : World) :
    Calls Try.prog 4 #[.agg #[.int .i64 n, .int .i64 x, .int .i64 y], .int .i64 c] w fun e w' => e = .returned (.bool true) ∧ Below w.heap.size w w' := by
  have hB : Below w.heap.size w (w.alloc (.cells #[.int .i64 n, .int .i64 x, .int .i64 y] 25)) := (Below.refl _ _).alloc (Nat.le_refl _) _
  have C0 := Cell3.new w (.int .i64 n) (.int .i64 x) (.int .i64 y) 25
  have h1 := fun w => mtimes_any n x y c w
  have h2 := fun w => refMTimes_any n x y c w
  generalize mst n x y (min c 1000).toNat = s at *
  obtain ⟨T, X, Y⟩ := s
  have H1 := Lib.hid h1
  have H2 := Lib.hid h2
  clear h1 h2
  go_enter Try.func4, Try.ntmps4
  go_wp2
  refine wp_region_calm0 (by kernel_rfl) (by kernel_rfl) fun M => ?_
  have e0 := fun n : In M.w => n.cell (M.cell C0.c0)
  have e1 := fun n : In M.w => n.cell (M.cell C0.c1)
  have e2 := fun n : In M.w => n.cell (M.cell C0.c2)
  repeat (go_big_quiet_step (first
    | (go_at_call 16; exact In.call (H1.out _))
    | (go_at_call 17; exact In.call (H2.out _))
    | (go_at_call 15; exact In.call (malive_any _))))
  refine wpQuiet_nil ?_
  intro w1 hb
  replace hB := hB.trans (hb.mono hB.size)
  clear hb e0 e1 e2
  go_wp2
  go_ret
  exact ⟨rfl, hB⟩
end Go.Proofs.Ytgaglplionfdgaa
