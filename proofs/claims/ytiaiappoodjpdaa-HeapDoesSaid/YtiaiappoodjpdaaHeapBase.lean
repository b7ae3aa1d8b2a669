/- What the laws of layer 13 lean on: the program's contracts (over a probe: HeapStub); what must come at any rate. -/
import Derived.Test.YtiaiappoodjpdaaHpK
namespace Go.Proofs.Ytiaiappoodjpdaa
open Go.RowKit

theorem Mv.al13 {F F' : Nat → Prop} {w w' : World} {o : Obj} (h : Mv F F' (w.alloc o) w') : Mv F F' w w' := (Mv.of_below ((Below.refl _ _).alloc (Nat.le_refl _) o)).trans h
theorem HeapAt.al {F : Nat → Prop} {w : World} {p : Nat} {S : List Th} (h : HeapAt F w p S) (o : Obj) : HeapAt F (w.alloc o) p S := h.kept ((Below.refl _ _).alloc (Nat.le_refl _) o)

set_option maxHeartbeats 4000000 in
set_option maxRecDepth 100000 in
theorem hAlive_any (w : World) : Calls Try.prog 5 #[] w fun e w' => e = .returned (.bool true) ∧ Below w.heap.size w w' := by
  have h1 : ∀ (F : Nat → Prop) p w, HeapAt F w p [] → Calls Try.prog 7 #[ptr13 p, .int .i64 1, .int .i64 5, .int .i64 2] w fun e w' => e = .returned (.bool true) ∧ ∃ F', HeapAt F' w' p [⟨1, 5, 2⟩] ∧ Mv F F' w w' := fun F p w h => hPut_any ⟨1, 5, 2⟩ w h (by simp) (by simp [I64])
  have h2 : ∀ (F : Nat → Prop) p w, HeapAt F w p [⟨1, 5, 2⟩] → Calls Try.prog 7 #[ptr13 p, .int .i64 2, .int .i64 5, .int .i64 1] w fun e w' => e = .returned (.bool true) ∧ ∃ F', HeapAt F' w' p [⟨2, 5, 1⟩, ⟨1, 5, 2⟩] ∧ Mv F F' w w' := fun F p w h => hPut_any ⟨2, 5, 1⟩ w h (by simp) (by simp [I64])
  have h3 : ∀ (F : Nat → Prop) p w, HeapAt F w p [⟨2, 5, 1⟩, ⟨1, 5, 2⟩] → Calls Try.prog 7 #[ptr13 p, .int .i64 3, .int .i64 4, .int .i64 0] w fun e w' => e = .returned (.bool true) ∧ ∃ F', HeapAt F' w' p [⟨2, 5, 1⟩, ⟨1, 5, 2⟩, ⟨3, 4, 0⟩] ∧ Mv F F' w w' := fun F p w h => hPut_any ⟨3, 4, 0⟩ w h (by simp) (by simp [I64])
  have h4 : ∀ (F : Nat → Prop) p w, HeapAt F w p [⟨2, 5, 1⟩, ⟨1, 5, 2⟩, ⟨3, 4, 0⟩] → Calls Try.prog 12 #[ptr13 p] w fun e w' => e = .returned (.tuple #[.int .i64 2, .bool true]) ∧ Below w.heap.size w w' := fun F p w h => hFirst_any w h (by simp)
  have h5 : ∀ (F : Nat → Prop) p w, HeapAt F w p [⟨2, 5, 1⟩, ⟨1, 5, 2⟩, ⟨3, 4, 0⟩] → Calls Try.prog 7 #[ptr13 p, .int .i64 3, .int .i64 4, .int .i64 9] w fun e w' => e = .returned (.bool false) ∧ ∃ F', HeapAt F' w' p [⟨2, 5, 1⟩, ⟨1, 5, 2⟩, ⟨3, 4, 9⟩] ∧ Mv F F' w w' := fun F p w h => hPut_any ⟨3, 4, 9⟩ w h (by simp) (by simp [I64])
  have h6 : ∀ (F : Nat → Prop) p w, HeapAt F w p [⟨2, 5, 1⟩, ⟨1, 5, 2⟩, ⟨3, 4, 9⟩] → Calls Try.prog 17 #[ptr13 p] w fun e w' => ∃ v, e = .returned v ∧ OwnI w' w.heap.size v [2, 1, 3] ∧ Below w.heap.size w w' := fun F p w h => hAll_any w h (by simp)
  have h7 : ∀ (F : Nat → Prop) p w, HeapAt F w p [⟨2, 5, 1⟩, ⟨1, 5, 2⟩, ⟨3, 4, 9⟩] → Calls Try.prog 9 #[ptr13 p, .int .i64 2] w fun e w' => e = .returned (.bool true) ∧ ∃ F', HeapAt F' w' p [⟨1, 5, 2⟩, ⟨3, 4, 9⟩] ∧ Mv F F' w w' := fun F p w h => hDrop_any 2 w h (by simp) (by simp [I64])
  have h8 : ∀ (F : Nat → Prop) p w, HeapAt F w p [⟨1, 5, 2⟩, ⟨3, 4, 9⟩] → Calls Try.prog 9 #[ptr13 p, .int .i64 2] w fun e w' => e = .returned (.bool false) ∧ ∃ F', HeapAt F' w' p [⟨1, 5, 2⟩, ⟨3, 4, 9⟩] ∧ Mv F F' w w' := fun F p w h => hDrop_any 2 w h (by simp) (by simp [I64])
  have h9 : ∀ (F : Nat → Prop) p w, HeapAt F w p [⟨1, 5, 2⟩, ⟨3, 4, 9⟩] → Calls Try.prog 15 #[ptr13 p] w fun e w' => e = .returned (.int .i64 2) ∧ Below w.heap.size w w' := fun F p w h => hLen_any w h (by simp)
  have hi : ∀ w va vb, IntsAt w va [2, 1, 3] → IntsAt w vb [2, 1, 3] → Calls Try.prog 16 #[va, vb] w fun e w' => e = .returned (.bool true) ∧ Below w.heap.size w w' := fun w va vb ha hb => by
    have := refInts_any va vb [2, 1, 3] [2, 1, 3] w ha hb (by simp) (by simp)
    rwa [decide_eq_true rfl] at this
  have hlit : ∀ w : World, IntsAt (w.alloc (.cells #[.int .i64 2, .int .i64 1, .int .i64 3] 3)) (.slice (some ⟨w.heap.size, 0, none⟩) 3 3) [2, 1, 3] := fun w => IntsAt.lit w [2, 1, 3] 3
  have H1 := Lib.hid h1
  have H2 := Lib.hid h2
  have H3 := Lib.hid h3
  have H4 := Lib.hid h4
  have H5 := Lib.hid h5
  have H6 := Lib.hid h6
  have H7 := Lib.hid h7
  have H8 := Lib.hid h8
  have H9 := Lib.hid h9
  have HI := Lib.hid hi
  have HL := Lib.hid hlit
  clear h1 h2 h3 h4 h5 h6 h7 h8 h9 hi hlit
  go_enter Try.func5, Try.ntmps5
  go_wp2_with (first
    | (go_at_call 6; (with_reducible refine (hNew_any _).mono ?_); rintro e w0 ⟨p, F0, rfl, hp, ht, hb⟩; have HP := Lib.hid hp; have HT0 := Lib.hid ht; have HB := Lib.hid hb; clear hp ht hb)
    | (go_at_call 7; (with_reducible refine (H1.out _ _ _ HT0.out).mono ?_); rintro e w1 ⟨rfl, F1, ht, hm⟩; have HT1 := Lib.hid ht; have HM := Lib.hid hm; clear ht hm HT0)
    | (go_at_call 7; (with_reducible refine (H2.out _ _ _ HT1.out).mono ?_); rintro e w2 ⟨rfl, F2, ht, hm⟩; have HT2 := Lib.hid ht; replace HM := Lib.hid (HM.out.trans hm); clear ht hm HT1)
    | (go_at_call 7; (with_reducible refine (H3.out _ _ _ HT2.out).mono ?_); rintro e w3 ⟨rfl, F3, ht, hm⟩; have HT3 := Lib.hid ht; replace HM := Lib.hid (HM.out.trans hm); clear ht hm HT2)
    | (go_at_call 12; (with_reducible refine (H4.out _ _ _ HT3.out).mono ?_); rintro e w4 ⟨rfl, hb⟩; replace HT3 := Lib.hid (HT3.out.kept hb); replace HM := Lib.hid (HM.out.trans (Mv.of_below hb)); clear hb)
    | (go_at_call 7; (with_reducible refine (H5.out _ _ _ HT3.out).mono ?_); rintro e w5 ⟨rfl, F5, ht, hm⟩; have HT5 := Lib.hid ht; replace HM := Lib.hid (HM.out.trans hm); clear ht hm HT3)
    | (go_at_call 17; (with_reducible refine (H6.out _ _ _ HT5.out).mono ?_); rintro e w6 ⟨v6, rfl, ho, hb⟩; have HO := Lib.hid (OwnI.ints ho); have HT6 := Lib.hid (HT5.out.kept hb); replace HM := Lib.hid (HM.out.trans (Mv.of_below hb)); clear ho hb HT5)
    | (go_at_call 16; (with_reducible refine (HI.out _ _ _ (IntsAt.below HO.out ((Below.refl _ _).alloc (Nat.le_refl _) _)) (HL.out _)).mono ?_); rintro e w7 ⟨rfl, hb⟩; have HT7 := Lib.hid ((HT6.out.al _).kept hb); replace HM := Lib.hid (HM.out.trans (Mv.al13 (Mv.of_below hb))); clear hb HT6)
    | (go_at_call 9; (with_reducible refine (H7.out _ _ _ HT7.out).mono ?_); rintro e w8 ⟨rfl, F8, ht, hm⟩; have HT8 := Lib.hid ht; replace HM := Lib.hid (HM.out.trans hm); clear ht hm HT7)
    | (go_at_call 9; (with_reducible refine (H8.out _ _ _ HT8.out).mono ?_); rintro e w9 ⟨rfl, F9, ht, hm⟩; have HT9 := Lib.hid ht; replace HM := Lib.hid (HM.out.trans hm); clear ht hm HT8)
    | (go_at_call 15; (with_reducible refine (H9.out _ _ _ HT9.out).mono ?_); rintro e w10 ⟨rfl, hb⟩; replace HM := Lib.hid (HM.out.trans (Mv.of_below hb)); clear hb))
  go_ret
  exact ⟨rfl, HB.out.trans (HM.out.only.below HP.out HB.out.size)⟩
end Go.Proofs.Ytiaiappoodjpdaa
