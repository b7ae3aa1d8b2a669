/- What the laws of layer 18 lean on: the program's contracts, as one structure; alive. -/
import Derived.Test.YtdoanlemoegikaaFifoRef
import Derived.Test.YtdoanlemoegikaaSideG
namespace Go.Proofs.Ytdoanlemoegikaa
open Go.RowKit

structure Fq where
  room : Int
  l : List Int
def clipF (n : Int) : Int := max 0 (min n 1024)
def hdF : List Int → Int × Bool
  | [] => (0, false)
  | x :: _ => (x, true)
def In18 (n : Int) : Prop := -9223372036854775808 ≤ n ∧ n ≤ 9223372036854775807
/-- what package fifo keeps -/
structure FifoProg where
  obj : ObjK Fq
  new : ∀ (room : Int) (w : World), In18 room → Calls Try.prog 16 #[.int .i64 room] w fun e w' => ∃ p F, e = .returned p ∧ obj.At F w' p ⟨clipF room, []⟩ ∧ (∀ k, F k → w.heap.size ≤ k) ∧ Below w.heap.size w w'
  put : ∀ {F w p q} (x : Int), obj.At F w p q → In18 x → Calls Try.prog 25 #[p, .int .i64 x] w fun e w' => e = .returned (.int .i64 (putF q.l q.room x).2) ∧ ∃ F', obj.At F' w' p ⟨q.room, (putF q.l q.room x).1⟩ ∧ Mv F F' w w'
  take : ∀ {F w p q}, obj.At F w p q → Calls Try.prog 26 #[p] w fun e w' => e = .returned (.tuple #[.int .i64 (hdF q.l).1, .bool (hdF q.l).2]) ∧ ∃ F', obj.At F' w' p ⟨q.room, q.l.drop 1⟩ ∧ Mv F F' w w'
  drop : ∀ {F w p q} (x : Int), obj.At F w p q → In18 x → Calls Try.prog 27 #[p, .int .i64 x] w fun e w' => e = .returned (.bool (wasF q.l x)) ∧ ∃ F', obj.At F' w' p ⟨q.room, dropF q.l x⟩ ∧ Mv F F' w w'
  first : ∀ {F w p q}, obj.At F w p q → Calls Try.prog 28 #[p] w fun e w' => e = .returned (.tuple #[.int .i64 (hdF q.l).1, .bool (hdF q.l).2]) ∧ Below w.heap.size w w'
  at_ : ∀ {F w p q} (x : Int), obj.At F w p q → In18 x → Calls Try.prog 34 #[p, .int .i64 x] w fun e w' => e = .returned (.int .i64 (plcL q.l x)) ∧ Below w.heap.size w w'
  list : ∀ {F w p q}, obj.At F w p q → Calls Try.prog 29 #[p] w fun e w' => ∃ v, e = .returned v ∧ IntsAt w' v q.l ∧ Below w.heap.size w w'
  len : ∀ {F w p q}, obj.At F w p q → Calls Try.prog 31 #[p] w fun e w' => e = .returned (.int .i64 (q.l.length : Int)) ∧ Below w.heap.size w w'
  room : ∀ {F w p q}, obj.At F w p q → Calls Try.prog 32 #[p] w fun e w' => e = .returned (.int .i64 q.room) ∧ Below w.heap.size w w'
  put_nil : ∀ (x : Int) (w : World), Calls Try.prog 25 #[.pointer none, .int .i64 x] w fun e w' => e = .returned (.int .i64 9) ∧ Below w.heap.size w w'
  take_nil : ∀ w : World, Calls Try.prog 26 #[.pointer none] w fun e w' => e = .returned (.tuple #[.int .i64 0, .bool false]) ∧ Below w.heap.size w w'
  drop_nil : ∀ (x : Int) (w : World), Calls Try.prog 27 #[.pointer none, .int .i64 x] w fun e w' => e = .returned (.bool false) ∧ Below w.heap.size w w'
  first_nil : ∀ w : World, Calls Try.prog 28 #[.pointer none] w fun e w' => e = .returned (.tuple #[.int .i64 0, .bool false]) ∧ Below w.heap.size w w'
  at_nil : ∀ (x : Int) (w : World), Calls Try.prog 34 #[.pointer none, .int .i64 x] w fun e w' => e = .returned (.int .i64 (-1)) ∧ Below w.heap.size w w'
  len_nil : ∀ w : World, Calls Try.prog 31 #[.pointer none] w fun e w' => e = .returned (.int .i64 0) ∧ Below w.heap.size w w'
  room_nil : ∀ w : World, Calls Try.prog 32 #[.pointer none] w fun e w' => e = .returned (.int .i64 0) ∧ Below w.heap.size w w'

section
variable {w w1 : World} {p : Value} {q : Fq} {bs : List Bes}
theorem FifoProg.sPut (C : FifoProg) (x : Int) (hx : In18 x) (h : SideG C.obj w w1 p q bs) : Calls Try.prog 25 #[p, .int .i64 x] w1 fun e w' => e = .returned (.int .i64 (putF q.l q.room x).2) ∧ SideG C.obj w w' p ⟨q.room, (putF q.l q.room x).1⟩ bs :=
  h.step fun _ h0 => C.put x h0 hx
theorem FifoProg.sTake (C : FifoProg) (h : SideG C.obj w w1 p q bs) : Calls Try.prog 26 #[p] w1 fun e w' => e = .returned (.tuple #[.int .i64 (hdF q.l).1, .bool (hdF q.l).2]) ∧ SideG C.obj w w' p ⟨q.room, q.l.drop 1⟩ bs :=
  h.step fun _ h0 => C.take h0
theorem FifoProg.sDrop (C : FifoProg) (x : Int) (hx : In18 x) (h : SideG C.obj w w1 p q bs) : Calls Try.prog 27 #[p, .int .i64 x] w1 fun e w' => e = .returned (.bool (wasF q.l x)) ∧ SideG C.obj w w' p ⟨q.room, dropF q.l x⟩ bs :=
  h.step fun _ h0 => C.drop x h0 hx
theorem FifoProg.sFirst (C : FifoProg) (h : SideG C.obj w w1 p q bs) : Calls Try.prog 28 #[p] w1 fun e w' => e = .returned (.tuple #[.int .i64 (hdF q.l).1, .bool (hdF q.l).2]) ∧ Below w1.heap.size w1 w' := by
  obtain ⟨F, h0, _⟩ := h
  exact C.first h0
theorem FifoProg.sAt (C : FifoProg) (x : Int) (hx : In18 x) (h : SideG C.obj w w1 p q bs) : Calls Try.prog 34 #[p, .int .i64 x] w1 fun e w' => e = .returned (.int .i64 (plcL q.l x)) ∧ Below w1.heap.size w1 w' := by
  obtain ⟨F, h0, _⟩ := h
  exact C.at_ x h0 hx
theorem FifoProg.sList (C : FifoProg) (h : SideG C.obj w w1 p q bs) : Calls Try.prog 29 #[p] w1 fun e w' => ∃ v, e = .returned v ∧ IntsAt w' v q.l ∧ Below w1.heap.size w1 w' := by
  obtain ⟨F, h0, _⟩ := h
  exact C.list h0
theorem FifoProg.sLen (C : FifoProg) (h : SideG C.obj w w1 p q bs) : Calls Try.prog 31 #[p] w1 fun e w' => e = .returned (.int .i64 (q.l.length : Int)) ∧ Below w1.heap.size w1 w' := by
  obtain ⟨F, h0, _⟩ := h
  exact C.len h0
theorem FifoProg.sRoom (C : FifoProg) (h : SideG C.obj w w1 p q bs) : Calls Try.prog 32 #[p] w1 fun e w' => e = .returned (.int .i64 q.room) ∧ Below w1.heap.size w1 w' := by
  obtain ⟨F, h0, _⟩ := h
  exact C.room h0
theorem FifoProg.sNew (C : FifoProg) (room : Int) (w : World) (h : In18 room) : Calls Try.prog 16 #[.int .i64 room] w fun e w' => ∃ p, e = .returned p ∧ SideG C.obj w w' p ⟨clipF room, []⟩ [] := by
  refine (C.new room w h).mono ?_
  rintro e w' ⟨p, F, rfl, h1, h2, h3⟩
  exact ⟨p, rfl, SideG.start h1 h2 h3⟩
end

end Go.Proofs.Ytdoanlemoegikaa
