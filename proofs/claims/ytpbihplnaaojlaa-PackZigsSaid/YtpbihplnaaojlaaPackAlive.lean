/- What must come at any rate, of bytes. -/
import Derived.Test.YtpbihplnaaojlaaPackBase
import Derived.Lib.SlBytesConst
namespace Go.Proofs.Ytpbihplnaaojlaa
open Go.RowKit

theorem kalive_var : bn (varL 300) = [172, 2] := by
  rw [varL_hi (by decide), varL_lo (by decide)]
  decide
theorem kalive_put : [97] ++ bn (bigs (kk 2) 515) = [97, 2, 3] := by decide

theorem one_mark (w : World) (n : Int) (b : UInt8) (h : n = (b.toNat : Int)) (fr : Nat × Nat) : BytesAt (w.alloc (.cells #[.int .u8 n] 5 fr)) (.slice (some ⟨w.heap.size, 0, none⟩) 1 1) [b] := by
  refine ⟨_, 1, rfl, Nat.le_refl _, fun _ => ⟨w.heap.size, 0, rfl, by simp, fun j x hj i u hu => ?_⟩⟩
  have h0 : j = 0 ∧ x = b := by
    cases j with
    | zero => simp at hj; exact ⟨rfl, hj.symm⟩
    | succ j => simp at hj
  obtain ⟨rfl, rfl⟩ := h0
  have h1 : i = 0 ∧ u = .int .u8 (x.toNat : Int) := by
    cases i with
    | zero => simp [csB] at hu; exact ⟨rfl, hu.symm⟩
    | succ i => simp [csB] at hu
  obtain ⟨rfl, rfl⟩ := h1
  subst h
  rw [World.cell?_alloc_mark]
  rfl

set_option maxHeartbeats 2000000 in
set_option maxRecDepth 100000 in
theorem kAlive_any (w : World) : Calls Try.prog 7 #[] w fun e w' => e = .returned (.bool true) ∧ Below w.heap.size w w' := by
  have kc := fun (w : World) (C : Array Value) (n c : Nat) => Lib.run_convert_bytes_const (P := Try.prog) w 22 5 C n c Try.underlying22 Try.underlying5
  have h1 : ∀ w, Calls Try.prog 15 #[.slice none 0 0, .int .u64 300] w fun e w' => ∃ v, e = .returned v ∧ BytesAt w' v [172, 2] ∧ Below w.heap.size w w' := fun w => by
    have := kVar_any (.slice none 0 0) [] 300 w (RowsAt.nil _ _ _) (by simp) (by decide)
    rw [List.nil_append, kalive_var] at this
    exact this
  have h2 := fun w => kZig_any (-3) w (by decide)
  have h3 := fun w => kUnzig_any 6 w (by decide)
  have h4 : ∀ va w, BytesAt w va [97] → Calls Try.prog 11 #[va, .int .u64 515, .int .i64 2] w fun e w' => ∃ v, e = .returned v ∧ BytesAt w' v [97, 2, 3] ∧ Below w.heap.size w w' := fun va w ha => by
    have := kPut_any va [97] 515 2 w ha (by simp) (by decide)
    rw [kalive_put] at this
    exact this
  rw [show zig (-3) = 5 by decide] at h2
  rw [show unzig 6 = 3 by decide] at h3
  have hs : ∀ w v, BytesAt w v [172, 2] → ∃ a c, v = .slice a 2 c ∧ (convert 22 9 (.slice a 2 c)).run Try.prog w = .ok (.string ⟨#[172, 2]⟩) w := fun w v h => by
    have h1 := str_of_bytes h
    obtain ⟨a, c, rfl⟩ := RowsAt.form h
    exact ⟨a, c, rfl, h1⟩
  have ht : ∀ w v, BytesAt w v [97, 2, 3] → ∃ a c, v = .slice a 3 c ∧ (convert 22 9 (.slice a 3 c)).run Try.prog w = .ok (.string ⟨#[97, 2, 3]⟩) w := fun w v h => by
    have h1 := str_of_bytes h
    obtain ⟨a, c, rfl⟩ := RowsAt.form h
    exact ⟨a, c, rfl, h1⟩
  have H1 := Lib.hid h1
  have H2 := Lib.hid h2
  have H3 := Lib.hid h3
  have H4 := Lib.hid h4
  have HS := Lib.hid hs
  have HT := Lib.hid ht
  clear h1 h2 h3 h4 hs ht
  go_enter Try.func7, Try.ntmps7
  go_wp2_with (first
    | (go_at_call 15; (with_reducible refine (H1.out _).mono ?_); rintro e w1 ⟨v1, rfl, hp1, hb1⟩; obtain ⟨a1, c1, rfl, s1⟩ := HS.out _ _ hp1; clear hp1)
    | (go_at_call 17; (with_reducible refine (H2.out _).mono ?_); rintro e w2 ⟨rfl, rfl⟩)
    | (go_at_call 19; (with_reducible refine (H3.out _).mono ?_); rintro e w3 ⟨rfl, rfl⟩)
    | (go_at_call 11; (with_reducible refine (H4.out _ _ (one_mark w1 97 97 rfl (1, 2))).mono ?_); rintro e w4 ⟨v4, rfl, hp4, hb4⟩; obtain ⟨a4, c4, rfl, s4⟩ := HT.out _ _ hp4; have hB4 := (hb1.alloc hb1.size (.cells #[.int .u8 97] 5 (1, 2))).trans (hb4.mono (hb1.alloc hb1.size (.cells #[.int .u8 97] 5 (1, 2))).size); clear hp4))
  go_ret
  exact ⟨rfl, hB4⟩
end Go.Proofs.Ytpbihplnaaojlaa
