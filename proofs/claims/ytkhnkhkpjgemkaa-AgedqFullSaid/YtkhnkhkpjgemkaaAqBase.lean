/- What the law of layer 15 leans on: the program's contracts, as one structure (the true code gives one); alive. -/
import Derived.Test.YtkhnkhkpjgemkaaAqMath
import Derived.Test.YtkhnkhkpjgemkaaAgeRefC
import Derived.Test.YtkhnkhkpjgemkaaBun2
namespace Go.Proofs.Ytkhnkhkpjgemkaa
open Go.RowKit

/-- what package agedq keeps -/
structure AqProg where
  At : (Nat → Prop) → World → Value → Aq → Prop
  same : ∀ {F w w' p q}, At F w p q → w.heap.size ≤ w'.heap.size → (∀ k, F k → w'.heap[k]? = w.heap[k]?) → At F w' p q
  lt : ∀ {F w p q}, At F w p q → ∀ k, F k → k < w.heap.size
  new : ∀ rate now w, Calls Try.prog 5 #[.int .i64 rate, .int .i64 now] w fun e w' => ∃ p F, e = .returned p ∧ At F w' p ⟨rt rate, tk now, []⟩ ∧ (∀ k, F k → w.heap.size ≤ k) ∧ Below w.heap.size w w'
  put : ∀ {F w p q} (x : It), At F w p q → q.l.length ≤ 999 → I64 x.id → Calls Try.prog 6 #[p, itv x] w fun e w' => e = .returned (.int .i64 (putA q x).2) ∧ ∃ F', At F' w' p (putA q x).1 ∧ Mv F F' w w'
  drop : ∀ {F w p q} (id : Int), At F w p q → q.l.length ≤ 1000 → I64 id → Calls Try.prog 14 #[p, .int .i64 id] w fun e w' => e = .returned (.bool (findA q.l id).2) ∧ ∃ F', At F' w' p (dropA q id) ∧ Mv F F' w w'
  toN : ∀ {F w p q} (now : Int), At F w p q → q.l.length ≤ 1000 → Calls Try.prog 7 #[p, .int .i64 now] w fun e w' => e = .returned (.tuple #[]) ∧ ∃ F', At F' w' p (toA q now) ∧ Mv F F' w w'
  now : ∀ {F w p q}, At F w p q → Calls Try.prog 11 #[p] w fun e w' => e = .returned (.int .i64 q.now) ∧ ∃ F', At F' w' p q ∧ Mv F F' w w'
  first : ∀ {F w p q}, At F w p q → q.l.length ≤ 1000 → Calls Try.prog 9 #[p] w fun e w' => e = .returned (.tuple #[.int .i64 (firstA q).1, .bool (firstA q).2]) ∧ ∃ F', At F' w' p q ∧ Mv F F' w w'
  find : ∀ {F w p q} (id : Int), At F w p q → q.l.length ≤ 1000 → I64 id → Calls Try.prog 12 #[p, .int .i64 id] w fun e w' => e = .returned (.tuple #[itv (findA q.l id).1, .bool (findA q.l id).2]) ∧ ∃ F', At F' w' p q ∧ Mv F F' w w'
  list : ∀ {F w p q}, At F w p q → q.l.length ≤ 1000 → Calls Try.prog 8 #[p] w fun e w' => ∃ v F', e = .returned v ∧ At F' w' p q ∧ Mv F F' w w' ∧ OwnI w' w.heap.size v (listA q) ∧ OffV F' v (listA q).length
  len : ∀ {F w p q}, At F w p q → Calls Try.prog 10 #[p] w fun e w' => e = .returned (.int .i64 q.l.length) ∧ ∃ F', At F' w' p q ∧ Mv F F' w w'
  put_nil : ∀ (x : It) (w : World), Calls Try.prog 6 #[.pointer none, itv x] w fun e w' => e = .returned (.int .i64 12) ∧ Below w.heap.size w w'
  drop_nil : ∀ (id : Int) (w : World), Calls Try.prog 14 #[.pointer none, .int .i64 id] w fun e w' => e = .returned (.bool false) ∧ Below w.heap.size w w'
  to_nil : ∀ (now : Int) (w : World), Calls Try.prog 7 #[.pointer none, .int .i64 now] w fun e w' => e = .returned (.tuple #[]) ∧ Below w.heap.size w w'
  now_nil : ∀ w : World, Calls Try.prog 11 #[.pointer none] w fun e w' => e = .returned (.int .i64 0) ∧ Below w.heap.size w w'
  first_nil : ∀ w : World, Calls Try.prog 9 #[.pointer none] w fun e w' => e = .returned (.tuple #[.int .i64 0, .bool false]) ∧ Below w.heap.size w w'
  len_nil : ∀ w : World, Calls Try.prog 10 #[.pointer none] w fun e w' => e = .returned (.int .i64 0) ∧ Below w.heap.size w w'
  age : ∀ (x : It) (now rate : Int) (w : World), Calls Try.prog 13 #[itv x, .int .i64 now, .int .i64 rate] w fun e w' => e = .returned (.int .i64 (ofA x now rate)) ∧ Below w.heap.size w w'

/-- a law's queue, and beside it a list of numbers and blocks that are kept -/
def Side15 (C : AqProg) (w w1 : World) (p : Value) (q : Aq) (v : Value) (all : List Int) (bs : List (Nat × List Value)) : Prop :=
  ∃ F, C.At F w1 p q ∧ (∀ k, F k → w.heap.size ≤ k) ∧ OffV F v all.length ∧ RowsAt w1 1 csI v all ∧ (∀ b ∈ bs, Blk w1 b.1 b.2 ∧ ¬ F b.1 ∧ b.1 < w1.heap.size) ∧ Below w.heap.size w w1
section
variable {C : AqProg} {w w1 w2 : World} {p v : Value} {q q' : Aq} {all : List Int} {bs : List (Nat × List Value)}
theorem Side15.mv {F F' : Nat → Prop} (h1 : ∀ k, F k → w.heap.size ≤ k) (h2 : OffV F v all.length) (h3 : RowsAt w1 1 csI v all) (h4 : ∀ b ∈ bs, Blk w1 b.1 b.2 ∧ ¬ F b.1 ∧ b.1 < w1.heap.size) (h5 : Below w.heap.size w w1) (g1 : C.At F' w2 p q') (g2 : Mv F F' w1 w2) : Side15 C w w2 p q' v all bs :=
  ⟨F', g1, g2.from_ h1 h5.size, OffV.mv h2 h3 g2, RowsAt.only h3 g2.only h2, fun b hb => by
    obtain ⟨k1, k2, k3⟩ := h4 b hb
    exact ⟨k1.same (g2.only.block _ k3 k2), g2.off k3 k2, Nat.lt_of_lt_of_le k3 g2.only.size⟩, h5.trans (g2.only.below h1 h5.size)⟩
theorem Side15.step {f : Nat} {args : Array Value} {r : Value} (h : Side15 C w w1 p q v all bs) (hc : ∀ F, C.At F w1 p q → Calls Try.prog f args w1 fun e w' => e = .returned r ∧ ∃ F', C.At F' w' p q' ∧ Mv F F' w1 w') :
    Calls Try.prog f args w1 fun e w' => e = .returned r ∧ Side15 C w w' p q' v all bs := by
  obtain ⟨F, h0, h1, h2, h3, h4, h5⟩ := h
  refine (hc F h0).mono ?_
  rintro e w' ⟨rfl, F', g1, g2⟩
  exact ⟨rfl, Side15.mv h1 h2 h3 h4 h5 g1 g2⟩
theorem Side15.kept (h : Side15 C w w1 p q v all bs) (hb : Below w1.heap.size w1 w2) : Side15 C w w2 p q v all bs := by
  obtain ⟨F, h0, h1, h2, h3, h4, h5⟩ := h
  exact Side15.mv h1 h2 h3 h4 h5 (C.same h0 hb.size fun k hk => hb.block k (C.lt h0 k hk)) (Mv.of_below hb)
theorem Side15.below (h : Side15 C w w1 p q v all bs) : Below w.heap.size w w1 := by
  obtain ⟨F, h0, h1, h2, h3, h4, h5⟩ := h
  exact h5
theorem Side15.ints (h : Side15 C w w1 p q v all bs) : IntsAt w1 v all := by
  obtain ⟨F, h0, h1, h2, h3, h4, h5⟩ := h
  exact h3.ints
theorem Side15.blk {b : Nat} {vs : List Value} (h : Side15 C w w1 p q v all ((b, vs) :: bs)) : Blk w1 b vs := by
  obtain ⟨F, h0, h1, h2, h3, h4, h5⟩ := h
  exact (h4 _ List.mem_cons_self).1
theorem Side15.less {b : Nat × List Value} (h : Side15 C w w1 p q v all (b :: bs)) : Side15 C w w1 p q v all bs := by
  obtain ⟨F, h0, h1, h2, h3, h4, h5⟩ := h
  exact ⟨F, h0, h1, h2, h3, fun b hb => h4 b (List.mem_cons_of_mem _ hb), h5⟩
/-- a new block beside the queue -/
theorem Side15.new (h : Side15 C w w1 p q v all bs) (vs : List Value) (t : TypeId) : Side15 C w (w1.alloc (.cells vs.toArray t)) p q v all ((w1.heap.size, vs) :: bs) := by
  have hb := (Below.refl w1.heap.size w1).alloc (Nat.le_refl _) (.cells vs.toArray t)
  obtain ⟨F, h0, h1, h2, h3, h4, h5⟩ := h
  refine ⟨F, C.same h0 hb.size fun k hk => hb.block k (C.lt h0 k hk), h1, h2, RowsAt.kept h3 hb, fun b hbs => ?_, h5.trans (hb.mono h5.size)⟩
  rcases List.mem_cons.1 hbs with rfl | hbs
  · exact ⟨Blk.new w1 vs t, fun hf => absurd (C.lt h0 _ hf) (Nat.lt_irrefl _), by simp⟩
  · obtain ⟨k1, k2, k3⟩ := h4 b hbs
    exact ⟨k1.same (hb.block _ k3), k2, Nat.lt_of_lt_of_le k3 hb.size⟩
/-- another list -/
theorem Side15.list (h : Side15 C w w1 p q v all []) (hl : q.l.length ≤ 1000) : Calls Try.prog 8 #[p] w1 fun e w' => ∃ v', e = .returned v' ∧ Side15 C w w' p q v' (listA q) [] := by
  obtain ⟨F, h0, h1, h2, h3, h4, h5⟩ := h
  refine (C.list h0 hl).mono ?_
  rintro e w' ⟨v', F', rfl, g1, g2, g3, g4⟩
  exact ⟨v', rfl, F', g1, g2.from_ h1 h5.size, g4, OwnR.rows csI_len g3, fun _ hb => (by cases hb), h5.trans (g2.only.below h1 h5.size)⟩
end
theorem Side15.start (C : AqProg) (rate now : Int) (w : World) : Calls Try.prog 5 #[.int .i64 rate, .int .i64 now] w fun e w' => ∃ p, e = .returned p ∧ Side15 C w w' p ⟨rt rate, tk now, []⟩ (.slice none 0 0) [] [] := by
  refine (C.new rate now w).mono ?_
  rintro e w' ⟨p, F, rfl, g1, g2, g3⟩
  exact ⟨p, rfl, F, g1, g2, OffV.nil, RowsAt.nil _ _ _, fun _ hb => (by cases hb), g3⟩
end Go.Proofs.Ytkhnkhkpjgemkaa
