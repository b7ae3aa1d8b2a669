/- What the laws of layer 18 lean on: the program's contracts, as one structure; alive. -/
import Derived.Test.YtcdgclnlpfnglaaFifoRef
import Derived.Test.YtcdgclnlpfnglaaSideG
namespace Go.Proofs.Ytcdgclnlpfnglaa
open Go.RowKit

structure Fq where
  room : Int
  l : List Int
def clipF (n : Int) : Int := max 0 (min n 1024)
def hdF : List Int → Int × Bool
  | [] => (0, false)
  | x :: _ => (x, true)
def In18 (n : Int) : Prop := -9223372036854775808 ≤ n ∧ n ≤ 9223372036854775807
/-- what package fifo keeps -/
structure FifoProg where
  obj : ObjK Fq
  new : ∀ (room : Int) (w : World), In18 room → Calls Try.prog 6 #[.int .i64 room] w fun e w' => ∃ p F, e = .returned p ∧ obj.At F w' p ⟨clipF room, []⟩ ∧ (∀ k, F k → w.heap.size ≤ k) ∧ Below w.heap.size w w'
  put : ∀ {F w p q} (x : Int), obj.At F w p q → In18 x → Calls Try.prog 8 #[p, .int .i64 x] w fun e w' => e = .returned (.int .i64 (putF q.l q.room x).2) ∧ ∃ F', obj.At F' w' p ⟨q.room, (putF q.l q.room x).1⟩ ∧ Mv F F' w w'
  take : ∀ {F w p q}, obj.At F w p q → Calls Try.prog 10 #[p] w fun e w' => e = .returned (.tuple #[.int .i64 (hdF q.l).1, .bool (hdF q.l).2]) ∧ ∃ F', obj.At F' w' p ⟨q.room, q.l.drop 1⟩ ∧ Mv F F' w w'
  drop : ∀ {F w p q} (x : Int), obj.At F w p q → In18 x → Calls Try.prog 11 #[p, .int .i64 x] w fun e w' => e = .returned (.bool (wasF q.l x)) ∧ ∃ F', obj.At F' w' p ⟨q.room, dropF q.l x⟩ ∧ Mv F F' w w'
  first : ∀ {F w p q}, obj.At F w p q → Calls Try.prog 13 #[p] w fun e w' => e = .returned (.tuple #[.int .i64 (hdF q.l).1, .bool (hdF q.l).2]) ∧ Below w.heap.size w w'
  at_ : ∀ {F w p q} (x : Int), obj.At F w p q → In18 x → Calls Try.prog 14 #[p, .int .i64 x] w fun e w' => e = .returned (.int .i64 (plcL q.l x)) ∧ Below w.heap.size w w'
  list : ∀ {F w p q}, obj.At F w p q → Calls Try.prog 17 #[p] w fun e w' => ∃ v, e = .returned v ∧ IntsAt w' v q.l ∧ Below w.heap.size w w'
  len : ∀ {F w p q}, obj.At F w p q → Calls Try.prog 18 #[p] w fun e w' => e = .returned (.int .i64 (q.l.length : Int)) ∧ Below w.heap.size w w'
  room : ∀ {F w p q}, obj.At F w p q → Calls Try.prog 19 #[p] w fun e w' => e = .returned (.int .i64 q.room) ∧ Below w.heap.size w w'
  put_nil : ∀ (x : Int) (w : World), Calls Try.prog 8 #[.pointer none, .int .i64 x] w fun e w' => e = .returned (.int .i64 9) ∧ Below w.heap.size w w'
  take_nil : ∀ w : World, Calls Try.prog 10 #[.pointer none] w fun e w' => e = .returned (.tuple #[.int .i64 0, .bool false]) ∧ Below w.heap.size w w'
  drop_nil : ∀ (x : Int) (w : World), Calls Try.prog 11 #[.pointer none, .int .i64 x] w fun e w' => e = .returned (.bool false) ∧ Below w.heap.size w w'
  first_nil : ∀ w : World, Calls Try.prog 13 #[.pointer none] w fun e w' => e = .returned (.tuple #[.int .i64 0, .bool false]) ∧ Below w.heap.size w w'
  at_nil : ∀ (x : Int) (w : World), Calls Try.prog 14 #[.pointer none, .int .i64 x] w fun e w' => e = .returned (.int .i64 (-1)) ∧ Below w.heap.size w w'
  len_nil : ∀ w : World, Calls Try.prog 18 #[.pointer none] w fun e w' => e = .returned (.int .i64 0) ∧ Below w.heap.size w w'
  room_nil : ∀ w : World, Calls Try.prog 19 #[.pointer none] w fun e w' => e = .returned (.int .i64 0) ∧ Below w.heap.size w w'

section
variable {w w1 : World} {p : Value} {q : Fq} {bs : List Bes}
theorem FifoProg.sPut (C : FifoProg) (x : Int) (hx : In18 x) (h : SideG C.obj w w1 p q bs) : Calls Try.prog 8 #[p, .int .i64 x] w1 fun e w' => e = .returned (.int .i64 (putF q.l q.room x).2) ∧ SideG C.obj w w' p ⟨q.room, (putF q.l q.room x).1⟩ bs :=
  h.step fun _ h0 => C.put x h0 hx
theorem FifoProg.sTake (C : FifoProg) (h : SideG C.obj w w1 p q bs) : Calls Try.prog 10 #[p] w1 fun e w' => e = .returned (.tuple #[.int .i64 (hdF q.l).1, .bool (hdF q.l).2]) ∧ SideG C.obj w w' p ⟨q.room, q.l.drop 1⟩ bs :=
  h.step fun _ h0 => C.take h0
theorem FifoProg.sDrop (C : FifoProg) (x : Int) (hx : In18 x) (h : SideG C.obj w w1 p q bs) : Calls Try.prog 11 #[p, .int .i64 x] w1 fun e w' => e = .returned (.bool (wasF q.l x)) ∧ SideG C.obj w w' p ⟨q.room, dropF q.l x⟩ bs :=
  h.step fun _ h0 => C.drop x h0 hx
theorem FifoProg.sFirst (C : FifoProg) (h : SideG C.obj w w1 p q bs) : Calls Try.prog 13 #[p] w1 fun e w' => e = .returned (.tuple #[.int .i64 (hdF q.l).1, .bool (hdF q.l).2]) ∧ Below w1.heap.size w1 w' := by
  obtain ⟨F, h0, _⟩ := h
  exact C.first h0
theorem FifoProg.sAt (C : FifoProg) (x : Int) (hx : In18 x) (h : SideG C.obj w w1 p q bs) : Calls Try.prog 14 #[p, .int .i64 x] w1 fun e w' => e = .returned (.int .i64 (plcL q.l x)) ∧ Below w1.heap.size w1 w' := by
  obtain ⟨F, h0, _⟩ := h
  exact C.at_ x h0 hx
theorem FifoProg.sList (C : FifoProg) (h : SideG C.obj w w1 p q bs) : Calls Try.prog 17 #[p] w1 fun e w' => ∃ v, e = .returned v ∧ IntsAt w' v q.l ∧ Below w1.heap.size w1 w' := by
  obtain ⟨F, h0, _⟩ := h
  exact C.list h0
theorem FifoProg.sLen (C : FifoProg) (h : SideG C.obj w w1 p q bs) : Calls Try.prog 18 #[p] w1 fun e w' => e = .returned (.int .i64 (q.l.length : Int)) ∧ Below w1.heap.size w1 w' := by
  obtain ⟨F, h0, _⟩ := h
  exact C.len h0
theorem FifoProg.sRoom (C : FifoProg) (h : SideG C.obj w w1 p q bs) : Calls Try.prog 19 #[p] w1 fun e w' => e = .returned (.int .i64 q.room) ∧ Below w1.heap.size w1 w' := by
  obtain ⟨F, h0, _⟩ := h
  exact C.room h0
theorem FifoProg.sNew (C : FifoProg) (room : Int) (w : World) (h : In18 room) : Calls Try.prog 6 #[.int .i64 room] w fun e w' => ∃ p, e = .returned p ∧ SideG C.obj w w' p ⟨clipF room, []⟩ [] := by
  refine (C.new room w h).mono ?_
  rintro e w' ⟨p, F, rfl, h1, h2, h3⟩
  exact ⟨p, rfl, SideG.start h1 h2 h3⟩
end

set_option maxHeartbeats 4000000 in
set_option maxRecDepth 100000 in
theorem fAlive_any (C : FifoProg) (w : World) : Calls Try.prog 5 #[] w fun e w' => e = .returned (.bool true) ∧ Below w.heap.size w w' := by
  have i3 : In18 3 := by simp [In18]
  have i4 : In18 4 := by simp [In18]
  have i2 : In18 2 := by simp [In18]
  have i9 : In18 9 := by simp [In18]
  have i5 : In18 5 := by simp [In18]
  have c0 : ∀ w, Calls Try.prog 6 #[.int .i64 3] w fun e w' => ∃ p, e = .returned p ∧ SideG C.obj w w' p ⟨3, []⟩ [] := fun w => C.sNew 3 w i3
  have c1 : ∀ w1 p, SideG C.obj w w1 p ⟨3, []⟩ [] → Calls Try.prog 8 #[p, .int .i64 4] w1 fun e w' => e = .returned (.int .i64 0) ∧ SideG C.obj w w' p ⟨3, [4]⟩ [] := fun w1 p h => C.sPut 4 i4 h
  have c2 : ∀ w1 p, SideG C.obj w w1 p ⟨3, [4]⟩ [] → Calls Try.prog 8 #[p, .int .i64 2] w1 fun e w' => e = .returned (.int .i64 0) ∧ SideG C.obj w w' p ⟨3, [4, 2]⟩ [] := fun w1 p h => C.sPut 2 i2 h
  have c3 : ∀ w1 p, SideG C.obj w w1 p ⟨3, [4, 2]⟩ [] → Calls Try.prog 8 #[p, .int .i64 9] w1 fun e w' => e = .returned (.int .i64 0) ∧ SideG C.obj w w' p ⟨3, [4, 2, 9]⟩ [] := fun w1 p h => C.sPut 9 i9 h
  have c4 : ∀ w1 p, SideG C.obj w w1 p ⟨3, [4, 2, 9]⟩ [] → Calls Try.prog 8 #[p, .int .i64 4] w1 fun e w' => e = .returned (.int .i64 6) ∧ SideG C.obj w w' p ⟨3, [4, 2, 9]⟩ [] := fun w1 p h => C.sPut 4 i4 h
  have c5 : ∀ w1 p, SideG C.obj w w1 p ⟨3, [4, 2, 9]⟩ [] → Calls Try.prog 8 #[p, .int .i64 5] w1 fun e w' => e = .returned (.int .i64 9) ∧ SideG C.obj w w' p ⟨3, [4, 2, 9]⟩ [] := fun w1 p h => C.sPut 5 i5 h
  have c6 : ∀ w1 p, SideG C.obj w w1 p ⟨3, [4, 2, 9]⟩ [] → Calls Try.prog 11 #[p, .int .i64 2] w1 fun e w' => e = .returned (.bool true) ∧ SideG C.obj w w' p ⟨3, [4, 9]⟩ [] := fun w1 p h => C.sDrop 2 i2 h
  have c7 : ∀ w1 p, SideG C.obj w w1 p ⟨3, [4, 9]⟩ [] → Calls Try.prog 14 #[p, .int .i64 9] w1 fun e w' => e = .returned (.int .i64 1) ∧ Below w1.heap.size w1 w' := fun w1 p h => C.sAt 9 i9 h
  have c8 : ∀ w1 p, SideG C.obj w w1 p ⟨3, [4, 9]⟩ [] → Calls Try.prog 17 #[p] w1 fun e w' => ∃ v, e = .returned v ∧ IntsAt w' v [4, 9] ∧ Below w1.heap.size w1 w' := fun w1 p h => C.sList h
  have c9 : ∀ w1 p, SideG C.obj w w1 p ⟨3, [4, 9]⟩ [] → Calls Try.prog 19 #[p] w1 fun e w' => e = .returned (.int .i64 3) ∧ Below w1.heap.size w1 w' := fun w1 p h => C.sRoom h
  have ci : ∀ va vb w1, IntsAt w1 va [4, 9] → IntsAt w1 vb [4, 9] → Calls Try.prog 16 #[va, vb] w1 fun e w' => e = .returned (.bool true) ∧ Below w1.heap.size w1 w' := fun va vb w1 ha hb => by
    have := refInts_any va vb [4, 9] [4, 9] w1 ha hb (by simp) (by simp)
    rwa [decide_eq_true rfl] at this
  have lit2 : ∀ (w : World) (a b : Int), IntsAt (w.alloc (.cells #[.int .i64 a, .int .i64 b] 3)) (.slice (some ⟨w.heap.size, 0, none⟩) 2 2) [a, b] := fun w a b => IntsAt.lit w [a, b] 3
  have C0 := Lib.hid c0
  have C1 := Lib.hid c1
  have C2 := Lib.hid c2
  have C3 := Lib.hid c3
  have C4 := Lib.hid c4
  have C5 := Lib.hid c5
  have C6 := Lib.hid c6
  have C7 := Lib.hid c7
  have C8 := Lib.hid c8
  have C9 := Lib.hid c9
  have CI := Lib.hid ci
  have L2 := Lib.hid lit2
  clear i3 i4 i2 i9 i5 c0 c1 c2 c3 c4 c5 c6 c7 c8 c9 ci lit2
  go_enter Try.func5, Try.ntmps5
  go_wp2_with (first
    | (go_at_call 6; (with_reducible refine (C0.out _).mono ?_); rintro e w0 ⟨p, rfl, h⟩; have S0 := Lib.hid h; clear h)
    | (go_at_call 8; (with_reducible refine (C1.out _ _ S0.out).mono ?_); rintro e w1 ⟨rfl, h⟩; have S1 := Lib.hid h; clear h S0)
    | (go_at_call 8; (with_reducible refine (C2.out _ _ S1.out).mono ?_); rintro e w1 ⟨rfl, h⟩; have S2 := Lib.hid h; clear h S1)
    | (go_at_call 8; (with_reducible refine (C3.out _ _ S2.out).mono ?_); rintro e w1 ⟨rfl, h⟩; have S3 := Lib.hid h; clear h S2)
    | (go_at_call 8; (with_reducible refine (C4.out _ _ S3.out).mono ?_); rintro e w1 ⟨rfl, h⟩; have S4 := Lib.hid h; clear h S3)
    | (go_at_call 8; (with_reducible refine (C5.out _ _ S4.out).mono ?_); rintro e w1 ⟨rfl, h⟩; have S5 := Lib.hid h; clear h S4)
    | (go_at_call 11; (with_reducible refine (C6.out _ _ S5.out).mono ?_); rintro e w1 ⟨rfl, h⟩; have S6 := Lib.hid h; clear h S5)
    | (go_at_call 14; (with_reducible refine (C7.out _ _ S6.out).mono ?_); rintro e w1 ⟨rfl, hb⟩; replace S6 := Lib.hid (S6.out.kept hb); clear hb)
    | (go_at_call 17; (with_reducible refine (C8.out _ _ S6.out).mono ?_); rintro e w1 ⟨v, rfl, h, hb⟩; replace S6 := Lib.hid (S6.out.kept hb); have X := Lib.hid h; obtain ⟨a9, c9, e⟩ := h.form; rw [show ([4, 9] : List Int).length = 2 from rfl] at e; subst e; clear h hb)
    | (go_at_call 16; (with_reducible refine (CI.out _ _ _ (X.out.below ((Below.refl _ _).alloc (Nat.le_refl _) _)) (L2.out _ 4 9)).mono ?_); rintro e w1 ⟨rfl, hb⟩; replace S6 := Lib.hid ((S6.out.kept ((Below.refl _ _).alloc (Nat.le_refl _) _)).kept hb); clear hb X)
    | (go_at_call 19; (with_reducible refine (C9.out _ _ S6.out).mono ?_); rintro e w1 ⟨rfl, hb⟩; replace S6 := Lib.hid (S6.out.kept hb); clear hb))
  go_ret
  exact ⟨rfl, S6.out.below⟩
end Go.Proofs.Ytcdgclnlpfnglaa
