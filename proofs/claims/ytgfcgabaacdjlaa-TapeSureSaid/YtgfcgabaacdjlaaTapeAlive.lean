/- What must come at any rate, of tapes. -/
import Derived.Test.YtgfcgabaacdjlaaTapeActs
namespace Go.Proofs.Ytgfcgabaacdjlaa
open Go.RowKit

/-- bytes of a constant -/
theorem const_mark11 (w : World) (l : List UInt8) (fr : Nat × Nat) : BytesAt (w.alloc (.cells (l.map fun b => Value.int .u8 (b.toNat : Int)).toArray 5 fr)) (.slice (some ⟨w.heap.size, 0, none⟩) l.length l.length) l := by
  refine ⟨_, l.length, rfl, Nat.le_refl _, fun _ => ⟨w.heap.size, 0, rfl, by simp, fun j x hj i u hu => ?_⟩⟩
  have h1 : i = 0 ∧ u = .int .u8 (x.toNat : Int) := by
    cases i with
    | zero => simp [csB] at hu; exact ⟨rfl, hu.symm⟩
    | succ i => simp [csB] at hu
  obtain ⟨rfl, rfl⟩ := h1
  rw [World.cell?_alloc_mark]
  simp [hj]
theorem TapeAt.al {F : Nat → Prop} {w : World} {p : Nat} {H L : List UInt8} {vh vl : Value} (h : TapeAt F w p H L vh vl) (o : Obj) : TapeAt F (w.alloc o) p H L vh vl := h.kept ((Below.refl _ _).alloc (Nat.le_refl _) o)
theorem Mv.al {F F' : Nat → Prop} {w w' : World} {o : Obj} (h : Mv F F' (w.alloc o) w') : Mv F F' w w' := (Mv.of_below ((Below.refl _ _).alloc (Nat.le_refl _) o)).trans h

set_option maxHeartbeats 4000000 in
set_option maxRecDepth 100000 in
theorem tAlive11_any (w : World) : Calls Try.prog 6 #[] w fun e w' => e = .returned (.bool true) ∧ Below w.heap.size w w' := by
  have kc := fun (w : World) (C : Array Value) (n c : Nat) => Lib.run_convert_bytes_const (P := Try.prog) w 27 5 C n c Try.underlying27 Try.underlying5
  have h1 : ∀ (F : Nat → Prop) p vh vl va w, TapeAt F w p [] [] vh vl → BytesAt w va [97, 98] → Calls Try.prog 14 #[ptr p, va] w fun e w' => e = .returned (.tuple #[]) ∧ ∃ vl' F', TapeAt F' w' p [] [97, 98] vh vl' ∧ Mv F F' w w' := fun F p vh vl va w h hb => tWrite_any va [97, 98] w h hb (by simp)
  have h2 : ∀ (F : Nat → Prop) p vh vl w, TapeAt F w p [] [97, 98] vh vl → Calls Try.prog 15 #[ptr p] w fun e w' => e = .returned (.tuple #[]) ∧ ∃ vh' F', TapeAt F' w' p [97, 98] [] vh' (.slice none 0 0) ∧ Mv F F' w w' := fun F p vh vl w h => tSync_any w h (by simp)
  have h3 : ∀ (F : Nat → Prop) p vh vl va w, TapeAt F w p [97, 98] [] vh vl → BytesAt w va [99, 100] → Calls Try.prog 14 #[ptr p, va] w fun e w' => e = .returned (.tuple #[]) ∧ ∃ vl' F', TapeAt F' w' p [97, 98] [99, 100] vh vl' ∧ Mv F F' w w' := fun F p vh vl va w h hb => tWrite_any va [99, 100] w h hb (by simp)
  have h4 : ∀ (F : Nat → Prop) p vh vl w, TapeAt F w p [97, 98] [99, 100] vh vl → Calls Try.prog 13 #[ptr p, .int .i64 1] w fun e w' => e = .returned (.tuple #[]) ∧ ∃ vh' F', TapeAt F' w' p [97, 98, 99] [] vh' (.slice none 0 0) ∧ Mv F F' w w' := fun F p vh vl w h => tCrash_any 1 w h (by simp)
  have h5 : ∀ (F : Nat → Prop) p vh vl w, TapeAt F w p [97, 98, 99] [] vh vl → Calls Try.prog 10 #[ptr p] w fun e w' => (∃ a c, e = .returned (.slice a 3 c) ∧ (convert 27 9 (.slice a 3 c)).run Try.prog w' = .ok (.string ⟨#[97, 98, 99]⟩) w') ∧ Below w.heap.size w w' := fun F p vh vl w h => by
    refine (tBytes_any w h (by simp)).mono ?_
    rintro e w' ⟨v, h1, h2, h3⟩
    have h4 := str_of_bytes (OwnB.bytes h2)
    obtain ⟨a, c, rfl⟩ := RowsAt.form (OwnB.bytes h2)
    exact ⟨⟨a, c, h1, h4⟩, h3⟩
  have h6 : ∀ (F : Nat → Prop) p vh vl w, TapeAt F w p [97, 98, 99] [] vh vl → Calls Try.prog 12 #[ptr p] w fun e w' => e = .returned (.int .i64 3) ∧ Below w.heap.size w w' := fun F p vh vl w h => tSure_any w h
  have h7 : ∀ (F : Nat → Prop) p vh vl w, TapeAt F w p [97, 98, 99] [] vh vl → Calls Try.prog 11 #[ptr p] w fun e w' => e = .returned (.int .i64 3) ∧ Below w.heap.size w w' := fun F p vh vl w h => tLen_any w h (by simp)
  have h8 : ∀ (F : Nat → Prop) p vh vl w, TapeAt F w p [97, 98, 99] [] vh vl → Calls Try.prog 16 #[ptr p, .int .i64 4] w fun e w' => e = .returned (.int .i64 12) ∧ Mv F F w w' := fun F p vh vl w h => by
    refine (tCut_any 4 w h (by simp)).mono ?_
    rintro e w' ⟨h1, vh', _, h3⟩
    exact ⟨h1, h3⟩
  have m1 : ∀ w : World, BytesAt (w.alloc (.cells #[.int .u8 97, .int .u8 98] 5 (2, 3))) (.slice (some ⟨w.heap.size, 0, none⟩) 2 2) [97, 98] := fun w => const_mark11 w [97, 98] (2, 3)
  have m2 : ∀ w : World, BytesAt (w.alloc (.cells #[.int .u8 99, .int .u8 100] 5 (2, 3))) (.slice (some ⟨w.heap.size, 0, none⟩) 2 2) [99, 100] := fun w => const_mark11 w [99, 100] (2, 3)
  have H1 := Lib.hid h1
  have H2 := Lib.hid h2
  have H3 := Lib.hid h3
  have H4 := Lib.hid h4
  have H5 := Lib.hid h5
  have H6 := Lib.hid h6
  have H7 := Lib.hid h7
  have H8 := Lib.hid h8
  have M1 := Lib.hid m1
  have M2 := Lib.hid m2
  clear h1 h2 h3 h4 h5 h6 h7 h8 m1 m2
  go_enter Try.func6, Try.ntmps6
  go_wp2_with (first
    | (go_at_call 7; (with_reducible refine (tNew_any _).mono ?_); rintro e w1 ⟨p, rfl, hp, ht, hb⟩; have HP := Lib.hid hp; have HT := Lib.hid ht; have HB := Lib.hid hb; clear hp ht hb)
    | (go_at_call 14; (with_reducible refine (H1.out _ _ _ _ _ _ (HT.out.al _) (M1.out _)).mono ?_); rintro e w2 ⟨rfl, vl2, F2, ht, hm⟩; have HT2 := Lib.hid ht; have HM := Lib.hid hm.al; clear ht hm HT)
    | (go_at_call 15; (with_reducible refine (H2.out _ _ _ _ _ HT2.out).mono ?_); rintro e w3 ⟨rfl, vh3, F3, ht, hm⟩; have HT3 := Lib.hid ht; replace HM := Lib.hid (HM.out.trans hm); clear ht hm HT2)
    | (go_at_call 14; (with_reducible refine (H3.out _ _ _ _ _ _ (HT3.out.al _) (M2.out _)).mono ?_); rintro e w4 ⟨rfl, vl4, F4, ht, hm⟩; have HT4 := Lib.hid ht; replace HM := Lib.hid (HM.out.trans hm.al); clear ht hm HT3)
    | (go_at_call 13; (with_reducible refine (H4.out _ _ _ _ _ HT4.out).mono ?_); rintro e w5 ⟨rfl, vh5, F5, ht, hm⟩; have HT5 := Lib.hid ht; replace HM := Lib.hid (HM.out.trans hm); clear ht hm HT4)
    | (go_at_call 10; (with_reducible refine (H5.out _ _ _ _ _ HT5.out).mono ?_); rintro e w6 ⟨⟨a6, c6, rfl, s6⟩, hb6⟩; have HT6 := Lib.hid (HT5.out.kept hb6); replace HM := Lib.hid (HM.out.trans (Mv.of_below hb6)); clear hb6)
    | (go_at_call 12; (with_reducible refine (H6.out _ _ _ _ _ HT6.out).mono ?_); rintro e w7 ⟨rfl, hb7⟩; have HT7 := Lib.hid (HT6.out.kept hb7); replace HM := Lib.hid (HM.out.trans (Mv.of_below hb7)); clear hb7 s6)
    | (go_at_call 11; (with_reducible refine (H7.out _ _ _ _ _ HT7.out).mono ?_); rintro e w8 ⟨rfl, hb8⟩; have HT8 := Lib.hid (HT7.out.kept hb8); replace HM := Lib.hid (HM.out.trans (Mv.of_below hb8)); clear hb8)
    | (go_at_call 16; (with_reducible refine (H8.out _ _ _ _ _ HT8.out).mono ?_); rintro e w9 ⟨rfl, hm⟩; replace HM := Lib.hid (HM.out.trans hm); clear hm))
  go_ret
  exact ⟨rfl, HB.out.trans (HM.out.only.below (fun k hk => by have := HP.out; omega) HB.out.size)⟩
end Go.Proofs.Ytgfcgabaacdjlaa
