/- What must come at any rate, of records. -/
import Derived.Test.YtmmaodcihpgdfaaFrameBase
import Derived.Lib.SlBytesConst
namespace Go.Proofs.Ytmmaodcihpgdfaa
open Go.RowKit

/-- bytes of a constant -/
theorem const_mark10 (w : World) (l : List UInt8) (fr : Nat × Nat) : BytesAt (w.alloc (.cells (l.map fun b => Value.int .u8 (b.toNat : Int)).toArray 5 fr)) (.slice (some ⟨w.heap.size, 0, none⟩) l.length l.length) l := by
  refine ⟨_, l.length, rfl, Nat.le_refl _, fun _ => ⟨w.heap.size, 0, rfl, by simp, fun j x hj i u hu => ?_⟩⟩
  have h1 : i = 0 ∧ u = .int .u8 (x.toNat : Int) := by
    cases i with
    | zero => simp [csB] at hu; exact ⟨rfl, hu.symm⟩
    | succ i => simp [csB] at hu
  obtain ⟨rfl, rfl⟩ := h1
  rw [World.cell?_alloc_mark]
  simp [hj]

set_option maxHeartbeats 2000000 in
set_option maxRecDepth 100000 in
theorem fAlive10_any (w : World) : Calls Try.prog 7 #[] w fun e w' => e = .returned (.bool true) ∧ Below w.heap.size w w' := by
  have kc := fun (w : World) (C : Array Value) (n c : Nat) => Lib.run_convert_bytes_const (P := Try.prog) w 22 5 C n c Try.underlying22 Try.underlying5
  have hread := read_rec [103, 111] [] (by decide)
  have hall := all_rec [103, 111] [] (by decide)
  rw [List.append_nil] at hread hall
  rw [allF_nil] at hall
  have hlen : (recF [103, 111]).length = 10 := recF_len _
  have h1 : ∀ va w, BytesAt w va [103, 111] → Calls Try.prog 8 #[.slice none 0 0, va] w fun e w' => ∃ v, e = .returned (.tuple #[v, .int .i64 0]) ∧ BytesAt w' v (recF [103, 111]) ∧ Below w.heap.size w w' := fun va w h => fWrite10_any (.slice none 0 0) va [] [103, 111] w (RowsAt.nil _ _ _) h (by decide) (by decide)
  generalize recF [103, 111] = R at *
  have h2 : ∀ va w, BytesAt w va R → Calls Try.prog 13 #[va] w fun e w' => ∃ v u, e = .returned (.tuple #[v, u, .int .i64 0]) ∧ BytesAt w' v [103, 111] ∧ BytesAt w' u [] ∧ Below w.heap.size w w' := fun va w h => by
    have := fRead10_any va R w h (by omega)
    rw [hread] at this
    exact this
  have h3 : ∀ va w, BytesAt w va R → Calls Try.prog 15 #[va] w fun e w' => ∃ v, e = .returned (.tuple #[v, .int .i64 10]) ∧ BssAt w' v [[103, 111]] ∧ Below w.heap.size w w' := fun va w h => by
    have := fAll10_any va R w h (by omega)
    rw [hall] at this
    exact this
  have h4 : ∀ w, Calls Try.prog 11 #[.int .i64 2] w fun e w' => e = .returned (.int .i64 10) ∧ Below w.heap.size w w' := fun w => fSize10_any 2 w (by decide)
  have m2 : ∀ w : World, BytesAt (w.alloc (.cells #[.int .u8 103, .int .u8 111] 5 (2, 3))) (.slice (some ⟨w.heap.size, 0, none⟩) 2 2) [103, 111] := fun w => const_mark10 w [103, 111] (2, 3)
  have hs : ∀ w v, BytesAt w v [103, 111] → ∃ a c, v = .slice a 2 c ∧ (convert 22 9 (.slice a 2 c)).run Try.prog w = .ok (.string ⟨#[103, 111]⟩) w := fun w v h => by
    have h1 := str_of_bytes h
    obtain ⟨a, c, rfl⟩ := RowsAt.form h
    exact ⟨a, c, rfl, h1⟩
  have hr : ∀ w v, BytesAt w v R → ∃ a c, v = .slice a 10 c := fun w v h => by
    obtain ⟨a, c, rfl⟩ := RowsAt.form h
    rw [hlen]
    exact ⟨a, c, rfl⟩
  have HR := Lib.hid hr
  have H1 := Lib.hid h1
  have H2 := Lib.hid h2
  have H3 := Lib.hid h3
  have H4 := Lib.hid h4
  have HS := Lib.hid hs
  have HM := Lib.hid m2
  clear h1 h2 h3 h4 hs m2 hr hlen hread hall
  have hB0 := (Below.refl w.heap.size w).alloc (Nat.le_refl _) (.cells #[.int .u8 103, .int .u8 111] 5 (2, 3))
  go_enter Try.func7, Try.ntmps7
  go_wp2_with (first
    | (go_at_call 8; (with_reducible refine (H1.out _ _ (HM.out _)).mono ?_); rintro e w1 ⟨v1, rfl, hp1, hb1⟩; have HP := Lib.hid hp1; have HB := Lib.hid (hB0.trans (hb1.mono hB0.size)); obtain ⟨a1, c1, rfl⟩ := HR.out _ _ hp1; clear hp1 hb1)
    | (go_at_call 13; (with_reducible refine (H2.out _ _ HP.out).mono ?_); rintro e w2 ⟨v2, u2, rfl, hp2, hq2, hb2⟩; replace HP := Lib.hid (HP.out.kept hb2); replace HB := Lib.hid (HB.out.trans (hb2.mono HB.out.size)); have HX := Lib.hid hp2; obtain ⟨a3, c3, rfl⟩ := RowsAt.form hq2; clear hp2 hq2 hb2)
    | (go_at_call 15; (with_reducible refine (H3.out _ _ HP.out).mono ?_); rintro e w3 ⟨v3, rfl, hp3, hb3⟩; replace HB := Lib.hid (HB.out.trans (hb3.mono HB.out.size)); obtain ⟨a4, c4, rfl⟩ := BssAt.form hp3; obtain ⟨a2, c2, rfl, s2⟩ := HS.out _ _ (HX.out.kept hb3); clear hp3 hb3)
    | (go_at_call 11; (with_reducible refine (H4.out _).mono ?_); rintro e w4 ⟨rfl, hb4⟩; replace HB := Lib.hid (HB.out.trans (hb4.mono HB.out.size)); clear hb4))
  go_ret
  exact ⟨rfl, HB.out⟩
end Go.Proofs.Ytmmaodcihpgdfaa
