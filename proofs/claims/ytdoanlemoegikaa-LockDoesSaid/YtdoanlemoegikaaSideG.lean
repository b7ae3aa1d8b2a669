/- An object with state, and whatever is kept beside it (blocks, lists, other objects): what a law holds between two calls. FOR ALL STAGES WITH STATE. -/
import Derived.Test.YtdoanlemoegikaaOff
namespace Go.Proofs.Ytdoanlemoegikaa
open Go.RowKit

/-- an object with state: how it stands in memory, in blocks of F -/
structure ObjK (σ : Type) where
  At : (Nat → Prop) → World → Value → σ → Prop
  same : ∀ {F w w' p q}, At F w p q → w.heap.size ≤ w'.heap.size → (∀ k, F k → w'.heap[k]? = w.heap[k]?) → At F w' p q
  lt : ∀ {F w p q}, At F w p q → ∀ k, F k → k < w.heap.size
/-- what is kept beside it, in blocks of foot -/
structure Bes where
  holds : World → Prop
  foot : Nat → Prop
  same : ∀ {w w'}, holds w → w.heap.size ≤ w'.heap.size → (∀ k, foot k → w'.heap[k]? = w.heap[k]?) → holds w'
  lt : ∀ {w}, holds w → ∀ k, foot k → k < w.heap.size
def Bes.blk (b : Nat) (v : Value) (vs : List Value) : Bes := ⟨fun w => Blk w b (v :: vs), fun k => k = b, fun h _ he => h.same (he b rfl), fun h k hk => by rw [hk]; exact h.lt⟩
def Bes.rows {α : Type} (K : Nat) (cs : α → List Value) (v : Value) (l : List α) : Bes :=
  ⟨fun w => RowsAt w K cs v l, fun k => 0 < l.length ∧ v.ownBlock = some k, fun h hz he => h.same hz fun h0 g hg => he g ⟨h0, hg⟩, fun h k hk => h.lt hk.1 k hk.2⟩
def Bes.obj {σ : Type} (C : ObjK σ) (F : Nat → Prop) (p : Value) (q : σ) : Bes := ⟨fun w => C.At F w p q, F, fun h hz he => C.same h hz he, fun h => C.lt h⟩
/-- the object, its blocks made since w; beside it bs, in other blocks -/
def SideG {σ : Type} (C : ObjK σ) (w w1 : World) (p : Value) (q : σ) (bs : List Bes) : Prop :=
  ∃ F, C.At F w1 p q ∧ (∀ k, F k → w.heap.size ≤ k) ∧ (∀ b ∈ bs, b.holds w1 ∧ ∀ k, b.foot k → ¬ F k) ∧ Below w.heap.size w w1
section
variable {σ : Type} {C : ObjK σ} {w w1 w2 : World} {p : Value} {q q' : σ} {b b' : Bes} {bs : List Bes}
theorem SideG.mv {F F' : Nat → Prop} (h1 : ∀ k, F k → w.heap.size ≤ k) (h2 : ∀ b ∈ bs, b.holds w1 ∧ ∀ k, b.foot k → ¬ F k) (h3 : Below w.heap.size w w1) (g1 : C.At F' w2 p q') (g2 : Mv F F' w1 w2) : SideG C w w2 p q' bs :=
  ⟨F', g1, g2.from_ h1 h3.size, fun b hb => by
    obtain ⟨k1, k2⟩ := h2 b hb
    exact ⟨b.same k1 g2.only.size fun k hk => g2.only.block k (b.lt k1 k hk) (k2 k hk), fun k hk => g2.off (b.lt k1 k hk) (k2 k hk)⟩, h3.trans (g2.only.below h1 h3.size)⟩
/-- a call that changes the object -/
theorem SideG.step {P : Program} {f : Nat} {args : Array Value} {r : Value} (h : SideG C w w1 p q bs) (hc : ∀ F, C.At F w1 p q → Calls P f args w1 fun e w' => e = .returned r ∧ ∃ F', C.At F' w' p q' ∧ Mv F F' w1 w') :
    Calls P f args w1 fun e w' => e = .returned r ∧ SideG C w w' p q' bs := by
  obtain ⟨F, h0, h1, h2, h3⟩ := h
  refine (hc F h0).mono ?_
  rintro e w' ⟨rfl, F', g1, g2⟩
  exact ⟨rfl, SideG.mv h1 h2 h3 g1 g2⟩
theorem SideG.kept (h : SideG C w w1 p q bs) (hb : Below w1.heap.size w1 w2) : SideG C w w2 p q bs := by
  obtain ⟨F, h0, h1, h2, h3⟩ := h
  exact SideG.mv h1 h2 h3 (C.same h0 hb.size fun k hk => hb.block k (C.lt h0 k hk)) (Mv.of_below hb)
theorem SideG.below (h : SideG C w w1 p q bs) : Below w.heap.size w w1 := by
  obtain ⟨F, h0, h1, h2, h3⟩ := h
  exact h3
theorem SideG.head (h : SideG C w w1 p q (b :: bs)) : b.holds w1 := by
  obtain ⟨F, h0, h1, h2, h3⟩ := h
  exact (h2 b List.mem_cons_self).1
theorem SideG.less (h : SideG C w w1 p q (b :: bs)) : SideG C w w1 p q bs := by
  obtain ⟨F, h0, h1, h2, h3⟩ := h
  exact ⟨F, h0, h1, fun b hb => h2 b (List.mem_cons_of_mem _ hb), h3⟩
theorem SideG.swap (h : SideG C w w1 p q (b :: b' :: bs)) : SideG C w w1 p q (b' :: b :: bs) := by
  obtain ⟨F, h0, h1, h2, h3⟩ := h
  refine ⟨F, h0, h1, fun x hx => h2 x ?_, h3⟩
  rcases List.mem_cons.1 hx with rfl | hx
  · exact List.mem_cons_of_mem _ List.mem_cons_self
  · rcases List.mem_cons.1 hx with rfl | hx
    · exact List.mem_cons_self
    · exact List.mem_cons_of_mem _ (List.mem_cons_of_mem _ hx)
/-- what a quiet call hands back in new memory, beside the object -/
theorem SideG.add (h : SideG C w w1 p q bs) (hb : Below w1.heap.size w1 w2) (b : Bes) (h2 : b.holds w2) (hn : ∀ k, b.foot k → w1.heap.size ≤ k) : SideG C w w2 p q (b :: bs) := by
  obtain ⟨F, h0, h1, h2', h3⟩ := h
  refine ⟨F, C.same h0 hb.size fun k hk => hb.block k (C.lt h0 k hk), h1, fun x hx => ?_, h3.trans (hb.mono h3.size)⟩
  rcases List.mem_cons.1 hx with rfl | hx
  · exact ⟨h2, fun k hk hf => by have := hn k hk; have := C.lt h0 k hf; omega⟩
  · obtain ⟨k1, k2⟩ := h2' x hx
    exact ⟨x.same k1 hb.size fun k hk => hb.block k (x.lt k1 k hk), k2⟩
theorem SideG.new (h : SideG C w w1 p q bs) (v : Value) (vs : List Value) (t : TypeId) : SideG C w (w1.alloc (.cells (v :: vs).toArray t)) p q (Bes.blk w1.heap.size v vs :: bs) :=
  h.add ((Below.refl w1.heap.size w1).alloc (Nat.le_refl _) _) _ (Blk.new w1 (v :: vs) t) fun k hk => by rw [show k = w1.heap.size from hk]; exact Nat.le_refl _
/-- a list in place of another one: it is that one's memory, or new -/
theorem SideG.turn {α : Type} {K : Nat} {cs : α → List Value} {v v' : Value} {l l' : List α} (h : SideG C w w1 p q (Bes.rows K cs v l :: bs)) (hb : Below w1.heap.size w1 w2) (h2 : RowsAt w2 K cs v' l') (hv : 0 < l'.length → ∀ k, v'.ownBlock = some k → (v.ownBlock = some k ∧ 0 < l.length) ∨ w1.heap.size ≤ k) : SideG C w w2 p q (Bes.rows K cs v' l' :: bs) := by
  obtain ⟨F, h0, h1, h2', h3⟩ := h
  refine ⟨F, C.same h0 hb.size fun k hk => hb.block k (C.lt h0 k hk), h1, fun x hx => ?_, h3.trans (hb.mono h3.size)⟩
  rcases List.mem_cons.1 hx with rfl | hx
  · refine ⟨h2, fun k hk hf => ?_⟩
    rcases hv hk.1 k hk.2 with hk2 | hk2
    · exact (h2' _ List.mem_cons_self).2 k ⟨hk2.2, hk2.1⟩ hf
    · have := C.lt h0 k hf
      omega
  · obtain ⟨k1, k2⟩ := h2' x (List.mem_cons_of_mem _ hx)
    exact ⟨x.same k1 hb.size fun k hk => hb.block k (x.lt k1 k hk), k2⟩
/-- a store into a block that is kept beside it -/
theorem SideG.write {v0 : Value} {vs : List Value} {blk : Nat} (h : SideG C w w1 p q (Bes.blk blk v0 vs :: bs)) (hb : w.heap.size ≤ blk) (hoff : ∀ x ∈ bs, ¬ x.foot blk) (k : Nat) (u v0' : Value) (vs' : List Value) (hs : (v0 :: vs).set k u = v0' :: vs') : SideG C w (w1.setCell ⟨blk, k, none⟩ u) p q (Bes.blk blk v0' vs' :: bs) := by
  obtain ⟨F, h0, h1, h2, h3⟩ := h
  have hnF : ¬ F blk := (h2 _ List.mem_cons_self).2 blk rfl
  refine ⟨F, C.same h0 (by simp [World.setCell]) fun j hj => Below.heap_setCell _ _ _ _ (fun e => hnF (by have e2 : j = blk := e; rw [← e2]; exact hj)), h1, fun x hx => ?_, h3.setCell (p := ⟨blk, k, none⟩) hb u⟩
  rcases List.mem_cons.1 hx with rfl | hx
  · refine ⟨?_, (h2 _ List.mem_cons_self).2⟩
    have := (show Blk w1 blk (v0 :: vs) from (h2 _ List.mem_cons_self).1).set k u
    rw [hs] at this
    exact this
  · obtain ⟨k1, k2⟩ := h2 x (List.mem_cons_of_mem _ hx)
    exact ⟨x.same k1 (by simp [World.setCell]) fun j hj => Below.heap_setCell _ _ _ _ (fun e => hoff x hx (by have e2 : j = blk := e; rw [← e2]; exact hj)), k2⟩
theorem SideG.start {F : Nat → Prop} (h0 : C.At F w1 p q) (h1 : ∀ k, F k → w.heap.size ≤ k) (hb : Below w.heap.size w w1) : SideG C w w1 p q [] := ⟨F, h0, h1, fun _ h => (by cases h), hb⟩
end
end Go.Proofs.Ytdoanlemoegikaa
