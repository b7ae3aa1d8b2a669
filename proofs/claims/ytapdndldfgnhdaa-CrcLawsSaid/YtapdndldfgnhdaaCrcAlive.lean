/- What must come at any rate, of sums. -/
import Derived.Test.YtapdndldfgnhdaaCrcBase
import Derived.Lib.SlBytesConst
namespace Go.Proofs.Ytapdndldfgnhdaa
open Go.RowKit

theorem c9_sum : sm (nb9 [49, 50, 51, 52, 53, 54, 55, 56, 57]) = 3421780262 := by decide +kernel
theorem c9_nil : sm (nb9 []) = 0 := by decide +kernel
theorem c9_flip : flips 1 1 [97] = [99] := by decide +kernel
/-- bytes of a constant -/
theorem const_mark (w : World) (l : List UInt8) (fr : Nat × Nat) : BytesAt (w.alloc (.cells (l.map fun b => Value.int .u8 (b.toNat : Int)).toArray 5 fr)) (.slice (some ⟨w.heap.size, 0, none⟩) l.length l.length) l := by
  refine ⟨_, l.length, rfl, Nat.le_refl _, fun _ => ⟨w.heap.size, 0, rfl, by simp, fun j x hj i u hu => ?_⟩⟩
  have h1 : i = 0 ∧ u = .int .u8 (x.toNat : Int) := by
    cases i with
    | zero => simp [csB] at hu; exact ⟨rfl, hu.symm⟩
    | succ i => simp [csB] at hu
  obtain ⟨rfl, rfl⟩ := h1
  rw [World.cell?_alloc_mark]
  simp [hj]

set_option maxHeartbeats 2000000 in
set_option maxRecDepth 100000 in
theorem cAlive9_any (w : World) : Calls Try.prog 7 #[] w fun e w' => e = .returned (.bool true) ∧ Below w.heap.size w w' := by
  have kc := fun (w : World) (C : Array Value) (n c : Nat) => Lib.run_convert_bytes_const (P := Try.prog) w 22 5 C n c Try.underlying22 Try.underlying5
  have h1 : ∀ va w, BytesAt w va [49, 50, 51, 52, 53, 54, 55, 56, 57] → Calls Try.prog 8 #[va] w fun e w' => e = .returned (.int .u32 3421780262) ∧ Below w.heap.size w w' := fun va w h => by
    have := cSum9_any va _ w h (by simp)
    rw [c9_sum] at this
    exact this
  have h2 : ∀ w, Calls Try.prog 8 #[.slice none 0 0] w fun e w' => e = .returned (.int .u32 0) ∧ Below w.heap.size w w' := fun w => by
    have := cSum9_any (.slice none 0 0) [] w (RowsAt.nil _ _ _) (by simp)
    rw [c9_nil] at this
    exact this
  have h3 : ∀ va w, BytesAt w va [97] → Calls Try.prog 13 #[va, .int .i64 1, .int .u32 1] w fun e w' => ∃ v, e = .returned v ∧ BytesAt w' v [99] ∧ Below w.heap.size w w' := fun va w h => by
    have := cFlip9_any va _ 1 1 w h (by simp) (by decide) (by decide)
    rw [c9_flip] at this
    exact this
  have hs : ∀ w v, BytesAt w v [99] → ∃ a c, v = .slice a 1 c ∧ (convert 22 9 (.slice a 1 c)).run Try.prog w = .ok (.string ⟨#[99]⟩) w := fun w v h => by
    have h1 := str_of_bytes h
    obtain ⟨a, c, rfl⟩ := RowsAt.form h
    exact ⟨a, c, rfl, h1⟩
  have H1 := Lib.hid h1
  have H2 := Lib.hid h2
  have H3 := Lib.hid h3
  have HS := Lib.hid hs
  have m1 : ∀ w : World, BytesAt (w.alloc (.cells #[.int .u8 49, .int .u8 50, .int .u8 51, .int .u8 52, .int .u8 53, .int .u8 54, .int .u8 55, .int .u8 56, .int .u8 57] 5 (9, 10))) (.slice (some ⟨w.heap.size, 0, none⟩) 9 9) [49, 50, 51, 52, 53, 54, 55, 56, 57] := fun w => const_mark w [49, 50, 51, 52, 53, 54, 55, 56, 57] (9, 10)
  have m2 : ∀ w : World, BytesAt (w.alloc (.cells #[.int .u8 97] 5 (1, 2))) (.slice (some ⟨w.heap.size, 0, none⟩) 1 1) [97] := fun w => const_mark w [97] (1, 2)
  have HM := Lib.hid m1
  have HN := Lib.hid m2
  clear m1 m2
  clear h1 h2 h3 hs
  go_enter Try.func7, Try.ntmps7
  go_wp2_with (first
    | (go_at_call 8; (with_reducible refine (H1.out _ _ (HM.out _)).mono ?_); rintro e w1 ⟨rfl, hb1⟩)
    | (go_at_call 8; (with_reducible refine (H2.out _).mono ?_); rintro e w2 ⟨rfl, hb2⟩)
    | (go_at_call 13; (with_reducible refine (H3.out _ _ (HN.out _)).mono ?_); rintro e w4 ⟨v4, rfl, hp4, hb4⟩; obtain ⟨a4, c4, rfl, s4⟩ := HS.out _ _ hp4; clear hp4))
  have B1 : Below w.heap.size w w1 := ((Below.refl w.heap.size w).alloc (Nat.le_refl _) _).trans (hb1.mono ((Below.refl w.heap.size w).alloc (Nat.le_refl _) _).size)
  have B2 := B1.trans (hb2.mono B1.size)
  have B4 : Below w.heap.size w w4 := (B2.alloc B2.size _).trans (hb4.mono (B2.alloc B2.size _).size)
  go_ret
  exact ⟨rfl, B4⟩
end Go.Proofs.Ytapdndldfgnhdaa
