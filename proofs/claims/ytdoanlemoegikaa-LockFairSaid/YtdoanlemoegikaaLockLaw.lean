/- What the laws of layer 19 lean on: the program's contracts, as one structure; alive. -/
import Derived.Test.YtdoanlemoegikaaLockRefG
import Derived.Test.YtdoanlemoegikaaFifoLaw
namespace Go.Proofs.Ytdoanlemoegikaa
open Go.RowKit

structure Lq where
  id : Int
  holder : Int
  wait : List Int
/-- what package lock keeps -/
structure LockProg where
  obj : ObjK Lq
  new : ∀ (id : Int) (w : World), In18 id → Calls Try.prog 6 #[.int .i64 id] w fun e w' => ∃ p F, e = .returned p ∧ obj.At F w' p ⟨id, 0, []⟩ ∧ (∀ k, F k → w.heap.size ≤ k) ∧ Below w.heap.size w w'
  ask : ∀ {F w p q} (t : Int), obj.At F w p q → In18 t → Calls Try.prog 7 #[p, .int .i64 t] w fun e w' => e = .returned (.int .i64 (askL q.holder q.wait t).2) ∧ ∃ F', obj.At F' w' p ⟨q.id, q.holder, (askL q.holder q.wait t).1⟩ ∧ Mv F F' w w'
  grant : ∀ {F w p q}, obj.At F w p q → Calls Try.prog 9 #[p] w fun e w' => e = .returned (.tuple #[.int .i64 (grantL q.holder q.wait).2.2.1, .bool (grantL q.holder q.wait).2.2.2]) ∧ ∃ F', obj.At F' w' p ⟨q.id, (grantL q.holder q.wait).1, (grantL q.holder q.wait).2.1⟩ ∧ Mv F F' w w'
  leave : ∀ {F w p q} (t : Int), obj.At F w p q → In18 t → Calls Try.prog 11 #[p, .int .i64 t] w fun e w' => e = .returned (.int .i64 (leaveL q.holder q.wait t).2.2) ∧ ∃ F', obj.At F' w' p ⟨q.id, (leaveL q.holder q.wait t).1, (leaveL q.holder q.wait t).2.1⟩ ∧ Mv F F' w w'
  head : ∀ {F w p q}, obj.At F w p q → Calls Try.prog 13 #[p] w fun e w' => e = .returned (.tuple #[.int .i64 (hdF q.wait).1, .bool (hdF q.wait).2]) ∧ Below w.heap.size w w'
  view : ∀ {F w p q}, obj.At F w p q → Calls Try.prog 15 #[p] w fun e w' => ∃ v, e = .returned (lkv q.id q.holder v) ∧ IntsAt w' v q.wait ∧ Below w.heap.size w w'
  ask_nil : ∀ (t : Int) (w : World), Calls Try.prog 7 #[.pointer none, .int .i64 t] w fun e w' => e = .returned (.int .i64 9) ∧ Below w.heap.size w w'
  grant_nil : ∀ w : World, Calls Try.prog 9 #[.pointer none] w fun e w' => e = .returned (.tuple #[.int .i64 0, .bool false]) ∧ Below w.heap.size w w'
  leave_nil : ∀ (t : Int) (w : World), Calls Try.prog 11 #[.pointer none, .int .i64 t] w fun e w' => e = .returned (.int .i64 0) ∧ Below w.heap.size w w'
  head_nil : ∀ w : World, Calls Try.prog 13 #[.pointer none] w fun e w' => e = .returned (.tuple #[.int .i64 0, .bool false]) ∧ Below w.heap.size w w'
  view_nil : ∀ w : World, Calls Try.prog 15 #[.pointer none] w fun e w' => ∃ v, e = .returned (lkv 0 0 v) ∧ Below w.heap.size w w'

section
variable {w w1 : World} {p : Value} {q : Lq} {bs : List Bes}
theorem LockProg.sAsk (C : LockProg) (t : Int) (ht : In18 t) (h : SideG C.obj w w1 p q bs) : Calls Try.prog 7 #[p, .int .i64 t] w1 fun e w' => e = .returned (.int .i64 (askL q.holder q.wait t).2) ∧ SideG C.obj w w' p ⟨q.id, q.holder, (askL q.holder q.wait t).1⟩ bs :=
  h.step fun _ h0 => C.ask t h0 ht
theorem LockProg.sGrant (C : LockProg) (h : SideG C.obj w w1 p q bs) : Calls Try.prog 9 #[p] w1 fun e w' => e = .returned (.tuple #[.int .i64 (grantL q.holder q.wait).2.2.1, .bool (grantL q.holder q.wait).2.2.2]) ∧ SideG C.obj w w' p ⟨q.id, (grantL q.holder q.wait).1, (grantL q.holder q.wait).2.1⟩ bs :=
  h.step fun _ h0 => C.grant h0
theorem LockProg.sLeave (C : LockProg) (t : Int) (ht : In18 t) (h : SideG C.obj w w1 p q bs) : Calls Try.prog 11 #[p, .int .i64 t] w1 fun e w' => e = .returned (.int .i64 (leaveL q.holder q.wait t).2.2) ∧ SideG C.obj w w' p ⟨q.id, (leaveL q.holder q.wait t).1, (leaveL q.holder q.wait t).2.1⟩ bs :=
  h.step fun _ h0 => C.leave t h0 ht
theorem LockProg.sHead (C : LockProg) (h : SideG C.obj w w1 p q bs) : Calls Try.prog 13 #[p] w1 fun e w' => e = .returned (.tuple #[.int .i64 (hdF q.wait).1, .bool (hdF q.wait).2]) ∧ Below w1.heap.size w1 w' := by
  obtain ⟨F, h0, _⟩ := h
  exact C.head h0
theorem LockProg.sView (C : LockProg) (h : SideG C.obj w w1 p q bs) : Calls Try.prog 15 #[p] w1 fun e w' => ∃ v, e = .returned (lkv q.id q.holder v) ∧ IntsAt w' v q.wait ∧ Below w1.heap.size w1 w' := by
  obtain ⟨F, h0, _⟩ := h
  exact C.view h0
theorem LockProg.sNew (C : LockProg) (id : Int) (w : World) (h : In18 id) : Calls Try.prog 6 #[.int .i64 id] w fun e w' => ∃ p, e = .returned p ∧ SideG C.obj w w' p ⟨id, 0, []⟩ [] := by
  refine (C.new id w h).mono ?_
  rintro e w' ⟨p, F, rfl, h1, h2, h3⟩
  exact ⟨p, rfl, SideG.start h1 h2 h3⟩
end

set_option maxHeartbeats 4000000 in
set_option maxRecDepth 100000 in
theorem lAlive_any (C : LockProg) (w : World) : Calls Try.prog 5 #[] w fun e w' => e = .returned (.bool true) ∧ Below w.heap.size w w' := by
  have i3 : In18 3 := by simp [In18]
  have i5 : In18 5 := by simp [In18]
  have i7 : In18 7 := by simp [In18]
  have C0 := Lib.hid fun w => C.sNew 3 w i3
  have C1 := Lib.hid (show ∀ w1 p, SideG C.obj w w1 p ⟨3, 0, []⟩ [] → Calls Try.prog 7 #[p, .int .i64 5] w1 fun e w' => e = .returned (.int .i64 0) ∧ SideG C.obj w w' p ⟨3, 0, [5]⟩ [] from fun w1 p h => C.sAsk 5 i5 h)
  have C2 := Lib.hid (show ∀ w1 p, SideG C.obj w w1 p ⟨3, 0, [5]⟩ [] → Calls Try.prog 7 #[p, .int .i64 7] w1 fun e w' => e = .returned (.int .i64 0) ∧ SideG C.obj w w' p ⟨3, 0, [5, 7]⟩ [] from fun w1 p h => C.sAsk 7 i7 h)
  have C3 := Lib.hid (show ∀ w1 p, SideG C.obj w w1 p ⟨3, 0, [5, 7]⟩ [] → Calls Try.prog 9 #[p] w1 fun e w' => e = .returned (.tuple #[.int .i64 5, .bool true]) ∧ SideG C.obj w w' p ⟨3, 5, [7]⟩ [] from fun w1 p h => C.sGrant h)
  have C4 := Lib.hid (show ∀ w1 p, SideG C.obj w w1 p ⟨3, 5, [7]⟩ [] → Calls Try.prog 9 #[p] w1 fun e w' => e = .returned (.tuple #[.int .i64 0, .bool false]) ∧ SideG C.obj w w' p ⟨3, 5, [7]⟩ [] from fun w1 p h => C.sGrant h)
  have C5 := Lib.hid (show ∀ w1 p, SideG C.obj w w1 p ⟨3, 5, [7]⟩ [] → Calls Try.prog 11 #[p, .int .i64 5] w1 fun e w' => e = .returned (.int .i64 2) ∧ SideG C.obj w w' p ⟨3, 0, [7]⟩ [] from fun w1 p h => C.sLeave 5 i5 h)
  have C6 := Lib.hid (show ∀ w1 p, SideG C.obj w w1 p ⟨3, 0, [7]⟩ [] → Calls Try.prog 11 #[p, .int .i64 5] w1 fun e w' => e = .returned (.int .i64 0) ∧ SideG C.obj w w' p ⟨3, 0, [7]⟩ [] from fun w1 p h => C.sLeave 5 i5 h)
  have C7 := Lib.hid (show ∀ w1 p, SideG C.obj w w1 p ⟨3, 0, [7]⟩ [] → Calls Try.prog 11 #[p, .int .i64 7] w1 fun e w' => e = .returned (.int .i64 1) ∧ SideG C.obj w w' p ⟨3, 0, []⟩ [] from fun w1 p h => C.sLeave 7 i7 h)
  have C8 := Lib.hid (show ∀ w1 p, SideG C.obj w w1 p ⟨3, 0, []⟩ [] → Calls Try.prog 15 #[p] w1 fun e w' => ∃ v, e = .returned (lkv 3 0 v) ∧ IntsAt w' v [] ∧ Below w1.heap.size w1 w' from fun w1 p h => C.sView h)
  have hf : ∀ (v : Value) (w : World), (Instr.field 28 (lkv 3 0 v) 0).run Try.prog w = .ok (.int .i64 3) w := fun v w => by kernel_rfl
  clear i3 i5 i7
  go_enter Try.func5, Try.ntmps5
  go_wp2_with (first
    | (go_at_call 6; (with_reducible refine (C0.out _).mono ?_); rintro e w1 ⟨p, rfl, h⟩; have S0 := Lib.hid h; clear h)
    | (go_at_call 7; (with_reducible refine (C1.out _ _ S0.out).mono ?_); rintro e w1 ⟨rfl, h⟩; have S1 := Lib.hid h; clear h)
    | (go_at_call 7; (with_reducible refine (C2.out _ _ S1.out).mono ?_); rintro e w1 ⟨rfl, h⟩; have S2 := Lib.hid h; clear h)
    | (go_at_call 9; (with_reducible refine (C4.out _ _ S3.out).mono ?_); rintro e w1 ⟨rfl, h⟩; have S4 := Lib.hid h; clear h)
    | (go_at_call 9; (with_reducible refine (C3.out _ _ S2.out).mono ?_); rintro e w1 ⟨rfl, h⟩; have S3 := Lib.hid h; clear h)
    | (go_at_call 11; (with_reducible refine (C7.out _ _ S6.out).mono ?_); rintro e w1 ⟨rfl, h⟩; have S7 := Lib.hid h; clear h)
    | (go_at_call 11; (with_reducible refine (C6.out _ _ S5.out).mono ?_); rintro e w1 ⟨rfl, h⟩; have S6 := Lib.hid h; clear h)
    | (go_at_call 11; (with_reducible refine (C5.out _ _ S4.out).mono ?_); rintro e w1 ⟨rfl, h⟩; have S5 := Lib.hid h; clear h)
    | (go_at_call 15; (with_reducible refine (C8.out _ _ S7.out).mono ?_); rintro e w1 ⟨v, rfl, _, h⟩; have HB := Lib.hid (S7.out.kept h).below; clear h))
  go_ret
  exact ⟨rfl, HB.out⟩
end Go.Proofs.Ytdoanlemoegikaa
