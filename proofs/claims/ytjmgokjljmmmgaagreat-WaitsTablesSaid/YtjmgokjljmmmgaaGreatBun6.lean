/- Texts of this proof, joined: FifoLaw; AisMath; OwnSet; AisRefA. -/
import Derived.Test.YtjmgokjljmmmgaaGreatBun5
import Derived.BigRegion
import Derived.Deep.AppendLies
import Derived.Deep.RegionLaw
/- What the laws of layer 18 lean on: the program's contracts, as one structure; alive. -/
namespace Go.Proofs.YtjmgokjljmmmgaaGreat
open Go.RowKit

structure Fq where
  room : Int
  l : List Int
def clipF (n : Int) : Int := max 0 (min n 1024)
def hdF : List Int → Int × Bool
  | [] => (0, false)
  | x :: _ => (x, true)
def In18 (n : Int) : Prop := -9223372036854775808 ≤ n ∧ n ≤ 9223372036854775807
/-- what package fifo keeps -/
structure FifoProg where
  obj : ObjK Fq
  new : ∀ (room : Int) (w : World), In18 room → Calls Tryz.prog 51 #[.int .i64 room] w fun e w' => ∃ p F, e = .returned p ∧ obj.At F w' p ⟨clipF room, []⟩ ∧ (∀ k, F k → w.heap.size ≤ k) ∧ Below w.heap.size w w'
  put : ∀ {F w p q} (x : Int), obj.At F w p q → In18 x → Calls Tryz.prog 86 #[p, .int .i64 x] w fun e w' => e = .returned (.int .i64 (putF q.l q.room x).2) ∧ ∃ F', obj.At F' w' p ⟨q.room, (putF q.l q.room x).1⟩ ∧ Mv F F' w w'
  take : ∀ {F w p q}, obj.At F w p q → Calls Tryz.prog 75 #[p] w fun e w' => e = .returned (.tuple #[.int .i64 (hdF q.l).1, .bool (hdF q.l).2]) ∧ ∃ F', obj.At F' w' p ⟨q.room, q.l.drop 1⟩ ∧ Mv F F' w w'
  drop : ∀ {F w p q} (x : Int), obj.At F w p q → In18 x → Calls Tryz.prog 74 #[p, .int .i64 x] w fun e w' => e = .returned (.bool (wasF q.l x)) ∧ ∃ F', obj.At F' w' p ⟨q.room, dropF q.l x⟩ ∧ Mv F F' w w'
  first : ∀ {F w p q}, obj.At F w p q → Calls Tryz.prog 89 #[p] w fun e w' => e = .returned (.tuple #[.int .i64 (hdF q.l).1, .bool (hdF q.l).2]) ∧ Below w.heap.size w w'
  at_ : ∀ {F w p q} (x : Int), obj.At F w p q → In18 x → Calls Tryz.prog 87 #[p, .int .i64 x] w fun e w' => e = .returned (.int .i64 (plcL q.l x)) ∧ Below w.heap.size w w'
  list : ∀ {F w p q}, obj.At F w p q → Calls Tryz.prog 78 #[p] w fun e w' => ∃ v, e = .returned v ∧ IntsAt w' v q.l ∧ Below w.heap.size w w'
  len : ∀ {F w p q}, obj.At F w p q → Calls Tryz.prog 92 #[p] w fun e w' => e = .returned (.int .i64 (q.l.length : Int)) ∧ Below w.heap.size w w'
  room : ∀ {F w p q}, obj.At F w p q → Calls Tryz.prog 108 #[p] w fun e w' => e = .returned (.int .i64 q.room) ∧ Below w.heap.size w w'
  put_nil : ∀ (x : Int) (w : World), Calls Tryz.prog 86 #[.pointer none, .int .i64 x] w fun e w' => e = .returned (.int .i64 9) ∧ Below w.heap.size w w'
  take_nil : ∀ w : World, Calls Tryz.prog 75 #[.pointer none] w fun e w' => e = .returned (.tuple #[.int .i64 0, .bool false]) ∧ Below w.heap.size w w'
  drop_nil : ∀ (x : Int) (w : World), Calls Tryz.prog 74 #[.pointer none, .int .i64 x] w fun e w' => e = .returned (.bool false) ∧ Below w.heap.size w w'
  first_nil : ∀ w : World, Calls Tryz.prog 89 #[.pointer none] w fun e w' => e = .returned (.tuple #[.int .i64 0, .bool false]) ∧ Below w.heap.size w w'
  at_nil : ∀ (x : Int) (w : World), Calls Tryz.prog 87 #[.pointer none, .int .i64 x] w fun e w' => e = .returned (.int .i64 (-1)) ∧ Below w.heap.size w w'
  len_nil : ∀ w : World, Calls Tryz.prog 92 #[.pointer none] w fun e w' => e = .returned (.int .i64 0) ∧ Below w.heap.size w w'
  room_nil : ∀ w : World, Calls Tryz.prog 108 #[.pointer none] w fun e w' => e = .returned (.int .i64 0) ∧ Below w.heap.size w w'

section
variable {w w1 : World} {p : Value} {q : Fq} {bs : List Bes}
theorem FifoProg.sPut (C : FifoProg) (x : Int) (hx : In18 x) (h : SideG C.obj w w1 p q bs) : Calls Tryz.prog 86 #[p, .int .i64 x] w1 fun e w' => e = .returned (.int .i64 (putF q.l q.room x).2) ∧ SideG C.obj w w' p ⟨q.room, (putF q.l q.room x).1⟩ bs :=
  h.step fun _ h0 => C.put x h0 hx
theorem FifoProg.sTake (C : FifoProg) (h : SideG C.obj w w1 p q bs) : Calls Tryz.prog 75 #[p] w1 fun e w' => e = .returned (.tuple #[.int .i64 (hdF q.l).1, .bool (hdF q.l).2]) ∧ SideG C.obj w w' p ⟨q.room, q.l.drop 1⟩ bs :=
  h.step fun _ h0 => C.take h0
theorem FifoProg.sDrop (C : FifoProg) (x : Int) (hx : In18 x) (h : SideG C.obj w w1 p q bs) : Calls Tryz.prog 74 #[p, .int .i64 x] w1 fun e w' => e = .returned (.bool (wasF q.l x)) ∧ SideG C.obj w w' p ⟨q.room, dropF q.l x⟩ bs :=
  h.step fun _ h0 => C.drop x h0 hx
theorem FifoProg.sFirst (C : FifoProg) (h : SideG C.obj w w1 p q bs) : Calls Tryz.prog 89 #[p] w1 fun e w' => e = .returned (.tuple #[.int .i64 (hdF q.l).1, .bool (hdF q.l).2]) ∧ Below w1.heap.size w1 w' := by
  obtain ⟨F, h0, _⟩ := h
  exact C.first h0
theorem FifoProg.sAt (C : FifoProg) (x : Int) (hx : In18 x) (h : SideG C.obj w w1 p q bs) : Calls Tryz.prog 87 #[p, .int .i64 x] w1 fun e w' => e = .returned (.int .i64 (plcL q.l x)) ∧ Below w1.heap.size w1 w' := by
  obtain ⟨F, h0, _⟩ := h
  exact C.at_ x h0 hx
theorem FifoProg.sList (C : FifoProg) (h : SideG C.obj w w1 p q bs) : Calls Tryz.prog 78 #[p] w1 fun e w' => ∃ v, e = .returned v ∧ IntsAt w' v q.l ∧ Below w1.heap.size w1 w' := by
  obtain ⟨F, h0, _⟩ := h
  exact C.list h0
theorem FifoProg.sLen (C : FifoProg) (h : SideG C.obj w w1 p q bs) : Calls Tryz.prog 92 #[p] w1 fun e w' => e = .returned (.int .i64 (q.l.length : Int)) ∧ Below w1.heap.size w1 w' := by
  obtain ⟨F, h0, _⟩ := h
  exact C.len h0
theorem FifoProg.sRoom (C : FifoProg) (h : SideG C.obj w w1 p q bs) : Calls Tryz.prog 108 #[p] w1 fun e w' => e = .returned (.int .i64 q.room) ∧ Below w1.heap.size w1 w' := by
  obtain ⟨F, h0, _⟩ := h
  exact C.room h0
theorem FifoProg.sNew (C : FifoProg) (room : Int) (w : World) (h : In18 room) : Calls Tryz.prog 51 #[.int .i64 room] w fun e w' => ∃ p, e = .returned p ∧ SideG C.obj w w' p ⟨clipF room, []⟩ [] := by
  refine (C.new room w h).mono ?_
  rintro e w' ⟨p, F, rfl, h1, h2, h3⟩
  exact ⟨p, rfl, SideG.start h1 h2 h3⟩
end

end Go.Proofs.YtjmgokjljmmmgaaGreat
/- Stage 20: the mathematics of a table of aisles: what is in it, what it turns into, what is right. -/
namespace Go.Proofs.YtjmgokjljmmmgaaGreat
open Go.RowKit

/-- a table: its aisles, who holds each, who waits for it; its tokens, how many each holds of what it wants -/
structure Tb where
  ids : List Int
  hd : Int → Int
  wt : Int → List Int
  toks : List Int
  got : Int → Nat
  want : Int → List Int
def upF {α : Type} (f : Int → α) (k : Int) (v : α) : Int → α := fun x => if x = k then v else f x
theorem upF_same {α : Type} (f : Int → α) (k : Int) (v : α) : upF f k v k = v := if_pos rfl
theorem upF_ne {α : Type} (f : Int → α) {k x : Int} (v : α) (h : x ≠ k) : upF f k v x = f x := if_neg h
/-- the aisle that a token waits for -/
def Tb.nx (T : Tb) (t : Int) : Option Int := (T.want t)[T.got t]?
def Tb.ask (T : Tb) (t : Int) : Tb :=
  match T.nx t with
  | none => T
  | some id => { T with wt := upF T.wt id (askL (T.hd id) (T.wt id) t).1 }
theorem Tb.ask_none {T : Tb} {t : Int} (h : T.nx t = none) : T.ask t = T := by unfold Tb.ask; rw [h]
theorem Tb.ask_some {T : Tb} {t id : Int} (h : T.nx t = some id) : T.ask t = { T with wt := upF T.wt id (askL (T.hd id) (T.wt id) t).1 } := by unfold Tb.ask; rw [h]
def insStep {α : Type} (f : α → Int) (s : α) (p : List α × Bool) (x : α) : List α × Bool := if (!p.2 && decide (f s < f x)) = true then (p.1 ++ [s] ++ [x], true) else (p.1 ++ [x], p.2)
def insR {α : Type} (f : α → Int) (s : α) (l : List α) : List α × Bool := l.foldl (insStep f s) ([], false)
def insG {α : Type} (f : α → Int) (s : α) (l : List α) : List α := if (insR f s l).2 = true then (insR f s l).1 else (insR f s l).1 ++ [s]
abbrev insI (t : Int) (l : List Int) : List Int := insG (fun x => x) t l
def Tb.put (T : Tb) (t : Int) (w : List Int) : Tb := { T with toks := insI t T.toks, got := upF T.got t 0, want := upF T.want t w }
/-- which error -/
def Tb.enterE (T : Tb) (t : Int) (w : List Int) : Int :=
  if t < 1 ∨ rightB w = false then 1 else if withinB w T.ids = false then 7 else if t ∈ T.toks then 6 else if 64 ≤ T.toks.length then 9 else 0
def Tb.enter (T : Tb) (t : Int) (w : List Int) : Tb := if T.enterE t w = 0 then (T.put t w).ask t else T
def Tb.leave (T : Tb) (t : Int) : Tb :=
  if t ∈ T.toks then { T with toks := T.toks.filter (fun x => decide (x ≠ t)), hd := fun id => (leaveL (T.hd id) (T.wt id) t).1, wt := fun id => (leaveL (T.hd id) (T.wt id) t).2.1 } else T
def Tb.give (T : Tb) (id t : Int) (r : List Int) : Tb := { T with hd := upF T.hd id t, wt := upF T.wt id r, got := upF T.got t (T.got t + 1) }
def Tb.step (T : Tb) (id : Int) : Tb × List (Int × Int) :=
  if T.hd id = 0 then (match T.wt id with
    | [] => (T, [])
    | t :: r => ((T.give id t r).ask t, [(t, id)])) else (T, [])
def Tb.scanL (T : Tb) (l : List Int) : Tb × List (Int × Int) := l.foldl (fun p id => ((p.1.step id).1, p.2 ++ (p.1.step id).2)) (T, [])
def Tb.scan (T : Tb) : Tb × List (Int × Int) := T.scanL T.ids
def Tb.isFull (T : Tb) (t : Int) : Bool := decide (T.got t = (T.want t).length)
def Tb.new (ids : List Int) : Tb := ⟨ids, fun _ => 0, fun _ => [], [], fun _ => 0, fun _ => []⟩

/-- right, but that x, which is in it, has not asked yet -/
structure OkX (T : Tb) (x : Option Int) : Prop where
  may : mayB T.ids = true
  ris : risL T.toks
  pos : ∀ t ∈ T.toks, 1 ≤ t ∧ In18 t
  few : T.toks.length ≤ 64
  wr : ∀ t ∈ T.toks, risL (T.want t)
  win : ∀ t ∈ T.toks, ∀ a ∈ T.want t, a ∈ T.ids
  gl : ∀ t ∈ T.toks, T.got t ≤ (T.want t).length
  hold : ∀ id ∈ T.ids, T.hd id ≠ 0 → T.hd id ∈ T.toks ∧ id ∈ (T.want (T.hd id)).take (T.got (T.hd id))
  held : ∀ t ∈ T.toks, ∀ id ∈ (T.want t).take (T.got t), T.hd id = t
  wait : ∀ id ∈ T.ids, ∀ t ∈ T.wt id, t ∈ T.toks ∧ T.nx t = some id
  nd : ∀ id ∈ T.ids, (T.wt id).Nodup
  waits : ∀ t ∈ T.toks, x ≠ some t → ∀ id, T.nx t = some id → t ∈ T.wt id
  off : ∀ t, x = some t → t ∈ T.toks ∧ ∀ id ∈ T.ids, t ∉ T.wt id
abbrev Tb.Ok (T : Tb) : Prop := OkX T none

theorem ris_nodup {l : List Int} (h : risL l) : l.Nodup := List.Pairwise.imp (fun h e => by omega) h
theorem nx_at {T : Tb} {t id : Int} (h : T.nx t = some id) : ∃ hg : T.got t < (T.want t).length, (T.want t)[T.got t] = id := List.getElem?_eq_some_iff.1 h
theorem nx_mem {T : Tb} {t id : Int} (h : T.nx t = some id) : id ∈ T.want t := List.mem_of_getElem? h
/-- what lies ahead in a list that rises is less -/
theorem ris_take_lt {l : List Int} (h : risL l) {k : Nat} (hk : k < l.length) {a : Int} (ha : a ∈ l.take k) : a < l[k] := by
  obtain ⟨i, hi, rfl⟩ := List.getElem_of_mem ha
  rw [List.length_take] at hi
  rw [List.getElem_take]
  exact List.pairwise_iff_getElem.1 h i k (by omega) hk (by omega)
theorem OkX.nx_take {T : Tb} {x : Option Int} (h : OkX T x) {t id : Int} (ht : t ∈ T.toks) (hn : T.nx t = some id) {a : Int} (ha : a ∈ (T.want t).take (T.got t)) : a < id := by
  obtain ⟨hg, rfl⟩ := nx_at hn
  exact ris_take_lt (h.wr t ht) hg ha
theorem OkX.nx_ids {T : Tb} {x : Option Int} (h : OkX T x) {t id : Int} (ht : t ∈ T.toks) (hn : T.nx t = some id) : id ∈ T.ids := h.win t ht id (nx_mem hn)
theorem OkX.wlen {T : Tb} {x : Option Int} (h : OkX T x) {id : Int} (hi : id ∈ T.ids) : (T.wt id).length ≤ 64 :=
  Nat.le_trans (len_of_sub _ _ (h.nd id hi) fun t ht => (h.wait id hi t ht).1) h.few
theorem OkX.ask_eq {T : Tb} {t id : Int} (h : OkX T (some t)) (hn : T.nx t = some id) : askL (T.hd id) (T.wt id) t = (T.wt id ++ [t], 0) := by
  obtain ⟨ht, ho⟩ := h.off t rfl
  have hi := h.nx_ids ht hn
  have hp := (h.pos t ht).1
  unfold askL
  rw [if_neg (by omega), if_neg, if_neg]
  · have := len_of_sub (t :: T.wt id) T.toks (List.nodup_cons.2 ⟨ho id hi, h.nd id hi⟩) (fun a ha => by
      rcases List.mem_cons.1 ha with rfl | ha
      · exact ht
      · exact (h.wait id hi a ha).1)
    have := h.few
    simp at *
    omega
  · rintro (e | e)
    · have h2 := h.hold id hi (by rw [e]; omega)
      rw [e] at h2
      have := h.nx_take ht hn h2.2
      omega
    · exact ho id hi e
theorem OkX.ask {T : Tb} {t : Int} (h : OkX T (some t)) : (T.ask t).Ok := by
  obtain ⟨ht, ho⟩ := h.off t rfl
  cases hn : T.nx t with
  | none =>
    rw [Tb.ask_none hn]
    refine { h with waits := fun t' h1 _ id h2 => ?_, off := fun _ h => (by cases h) }
    by_cases e : t' = t
    · subst e
      rw [hn] at h2
      cases h2
    · exact h.waits t' h1 (fun h3 => e (Option.some.inj h3).symm) id h2
  | some id =>
    rw [Tb.ask_some hn, h.ask_eq hn]
    have hi := h.nx_ids ht hn
    refine { may := h.may, ris := h.ris, pos := h.pos, few := h.few, wr := h.wr, win := h.win, gl := h.gl, hold := h.hold, held := h.held, wait := fun id' h1 t' h2 => ?_, nd := fun id' h1 => ?_, waits := fun t' h1 _ id' h2 => ?_, off := fun _ h => (by cases h) }
    · have h2 : t' ∈ upF T.wt id (T.wt id ++ [t]) id' := h2
      by_cases e : id' = id
      · subst e
        rw [upF_same] at h2
        rcases List.mem_append.1 h2 with h2 | h2
        · exact h.wait id' h1 t' h2
        · rw [List.mem_singleton.1 h2]
          exact ⟨ht, hn⟩
      · rw [upF_ne _ _ e] at h2
        exact h.wait id' h1 t' h2
    · show (upF T.wt id (T.wt id ++ [t]) id').Nodup
      by_cases e : id' = id
      · subst e
        rw [upF_same]
        exact List.nodup_append.2 ⟨h.nd _ h1, by simp, fun a ha b hb e => ho _ h1 (by rw [List.mem_singleton.1 hb] at e; exact e ▸ ha)⟩
      · rw [upF_ne _ _ e]
        exact h.nd id' h1
    · show t' ∈ upF T.wt id (T.wt id ++ [t]) id'
      have h2 : T.nx t' = some id' := h2
      by_cases e : t' = t
      · subst e
        obtain rfl : id = id' := Option.some.inj (hn.symm.trans h2)
        rw [upF_same]
        simp
      · have h3 := h.waits t' h1 (fun h3 => e (Option.some.inj h3).symm) id' h2
        by_cases e2 : id' = id
        · subst e2
          rw [upF_same]
          exact List.mem_append_left _ h3
        · rw [upF_ne _ _ e2]
          exact h3

/-! ### Somebody comes in -/
theorem insR_snoc {α : Type} (f : α → Int) (s : α) (l : List α) (x : α) : insR f s (l ++ [x]) = insStep f s (insR f s l) x := by unfold insR; rw [List.foldl_append]; rfl
theorem insR_next {α : Type} (f : α → Int) (s : α) (l : List α) (k : Nat) (hk : k < l.length) : insR f s (l.take (k + 1)) = insStep f s (insR f s (l.take k)) l[k] := by
  rw [List.take_succ_eq_append_getElem hk, insR_snoc]
theorem insR_perm {α : Type} (f : α → Int) (s : α) : ∀ l : List α, ((insR f s l).2 = true → (insR f s l).1.Perm (s :: l)) ∧ ((insR f s l).2 = false → (insR f s l).1 = l) := by
  refine snoc_ind ⟨fun h => (by cases h), fun _ => rfl⟩ fun l x ⟨h1, h2⟩ => ?_
  rw [insR_snoc]
  unfold insStep
  cases hb : (insR f s l).2 with
  | true =>
    simp only [Bool.not_true, Bool.false_and, Bool.false_eq_true, if_false]
    exact ⟨fun _ => (h1 hb).append_right [x], fun h => (by cases h)⟩
  | false =>
    rw [h2 hb]
    by_cases hx : f s < f x
    · simp only [Bool.not_false, Bool.true_and, decide_eq_true_eq, hx, if_true]
      refine ⟨fun _ => ?_, fun h => (by cases h)⟩
      exact (List.perm_append_singleton s l).append_right [x]
    · simp only [Bool.not_false, Bool.true_and, decide_eq_true_eq, hx, if_false]
      exact ⟨fun h => (by cases h), fun _ => trivial⟩
theorem insG_perm {α : Type} (f : α → Int) (s : α) (l : List α) : (insG f s l).Perm (s :: l) := by
  obtain ⟨h1, h2⟩ := insR_perm f s l
  unfold insG
  split
  · rename_i h
    exact h1 h
  · rename_i h
    rw [h2 (by simpa using h)]
    exact List.perm_append_singleton s l
theorem insR_ris (t : Int) : ∀ l : List Int, risL l → t ∉ l → ((insR (fun x => x) t l).2 = true → risL (insR (fun x => x) t l).1 ∧ ∃ y ∈ l, t < y) ∧ ((insR (fun x => x) t l).2 = false → ∀ y ∈ l, y < t) := by
  refine snoc_ind (fun _ _ => ⟨fun h => (by cases h), fun _ y h => (by cases h)⟩) fun l x ih hr hn => ?_
  obtain ⟨hr1, _, hr2⟩ := List.pairwise_append.1 hr
  obtain ⟨h1, h2⟩ := ih hr1 (fun h => hn (List.mem_append_left _ h))
  have hp := insR_perm (fun x => x) t l
  have hne : t ≠ x := fun e => hn (by rw [e]; simp)
  rw [insR_snoc]
  unfold insStep
  cases hb : (insR (fun x => x) t l).2 with
  | true =>
    simp only [Bool.not_true, Bool.false_and, Bool.false_eq_true, if_false]
    refine ⟨fun _ => ?_, fun h => (by cases h)⟩
    obtain ⟨h3, y, hy, hty⟩ := h1 hb
    refine ⟨List.pairwise_append.2 ⟨h3, by simp, fun a ha b hb2 => ?_⟩, y, List.mem_append_left _ hy, hty⟩
    rw [List.mem_singleton.1 hb2]
    have ha2 := ((hp.1 hb).mem_iff).1 ha
    have hyx := hr2 y hy x (by simp)
    rcases List.mem_cons.1 ha2 with rfl | ha2
    · omega
    · exact hr2 a ha2 x (by simp)
  | false =>
    have h3 := h2 hb
    rw [hp.2 hb]
    by_cases hx : t < x
    · simp only [Bool.not_false, Bool.true_and, decide_eq_true_eq, hx, if_true]
      refine ⟨fun _ => ⟨List.pairwise_append.2 ⟨List.pairwise_append.2 ⟨hr1, by simp, fun a ha b hb2 => ?_⟩, by simp, fun a ha b hb2 => ?_⟩, x, by simp, hx⟩, fun h => (by cases h)⟩
      · rw [List.mem_singleton.1 hb2]
        exact h3 a ha
      · rw [List.mem_singleton.1 hb2]
        rcases List.mem_append.1 ha with ha | ha
        · exact hr2 a ha x (by simp)
        · rw [List.mem_singleton.1 ha]
          exact hx
    · simp only [Bool.not_false, Bool.true_and, decide_eq_true_eq, hx, if_false]
      refine ⟨fun h => (by cases h), fun _ y hy => ?_⟩
      rcases List.mem_append.1 hy with hy | hy
      · exact h3 y hy
      · rw [List.mem_singleton.1 hy]
        omega
theorem insI_ris {t : Int} {l : List Int} (hr : risL l) (hn : t ∉ l) : risL (insI t l) := by
  obtain ⟨h1, h2⟩ := insR_ris t l hr hn
  have hp := insR_perm (fun x => x) t l
  unfold insI insG
  split
  · rename_i h
    exact (h1 h).1
  · rename_i h
    have h := (by simpa using h : (insR (fun x => x) t l).2 = false)
    rw [hp.2 h]
    exact List.pairwise_append.2 ⟨hr, by simp, fun a ha b hb => by rw [List.mem_singleton.1 hb]; exact h2 h a ha⟩
theorem insI_mem {t x : Int} {l : List Int} : x ∈ insI t l ↔ x = t ∨ x ∈ l := by rw [(insG_perm _ t l).mem_iff, List.mem_cons]
theorem insI_len {t : Int} {l : List Int} : (insI t l).length = l.length + 1 := (insG_perm _ t l).length_eq
theorem insR_map {α β : Type} (g : α → β) (f : α → Int) (f' : β → Int) (hf : ∀ x, f' (g x) = f x) (s : α) : ∀ l : List α, insR f' (g s) (l.map g) = ((insR f s l).1.map g, (insR f s l).2) := by
  refine snoc_ind rfl fun l x ih => ?_
  rw [List.map_append, List.map_singleton, insR_snoc, insR_snoc, ih]
  unfold insStep
  simp only [hf]
  split <;> simp
theorem insG_map {α β : Type} (g : α → β) (f : α → Int) (f' : β → Int) (hf : ∀ x, f' (g x) = f x) (s : α) (l : List α) : (insG f s l).map g = insG f' (g s) (l.map g) := by
  unfold insG
  rw [insR_map g f f' hf]
  simp only
  split <;> simp
theorem enterE_ok {T : Tb} {t : Int} {w : List Int} (h : T.enterE t w = 0) : 1 ≤ t ∧ risL w ∧ (∀ a ∈ w, a ∈ T.ids) ∧ t ∉ T.toks ∧ T.toks.length < 64 := by
  unfold Tb.enterE at h
  split at h
  · omega
  · rename_i h1
    split at h
    · omega
    · rename_i h2
      split at h
      · omega
      · rename_i h3
        split at h
        · omega
        · rename_i h4
          refine ⟨by omega, of_decide_eq_true (by simpa [rightB] using fun h => h1 (.inr h)), (within_iff _ _).1 (by simpa using h2), h3, by omega⟩
theorem put_ok {T : Tb} (h : T.Ok) {t : Int} (ht : In18 t) {w : List Int} (he : T.enterE t w = 0) : OkX (T.put t w) (some t) := by
  obtain ⟨h1, h2, h3, h4, h5⟩ := enterE_ok he
  have hne : ∀ t' ∈ T.toks, t' ≠ t := fun t' h6 e => h4 (e ▸ h6)
  refine { may := h.may, ris := insI_ris h.ris h4, pos := fun t' h6 => ?_, few := by show (insI t T.toks).length ≤ 64; rw [insI_len]; omega, wr := fun t' h6 => ?_, win := fun t' h6 a ha => ?_, gl := fun t' h6 => ?_, hold := fun id hi h6 => ?_, held := fun t' h6 id hi => ?_, wait := fun id hi t' h6 => ?_, nd := h.nd, waits := fun t' h6 hx id hn => ?_, off := fun t' e => ?_ }
  · rcases insI_mem.1 h6 with rfl | h6
    · exact ⟨h1, ht⟩
    · exact h.pos t' h6
  · show risL (upF T.want t w t')
    rcases insI_mem.1 h6 with rfl | h6
    · rw [upF_same]; exact h2
    · rw [upF_ne _ _ (hne t' h6)]; exact h.wr t' h6
  · have ha : a ∈ upF T.want t w t' := ha
    rcases insI_mem.1 h6 with rfl | h6
    · rw [upF_same] at ha; exact h3 a ha
    · rw [upF_ne _ _ (hne t' h6)] at ha; exact h.win t' h6 a ha
  · show upF T.got t 0 t' ≤ (upF T.want t w t').length
    rcases insI_mem.1 h6 with rfl | h6
    · rw [upF_same]; exact Nat.zero_le _
    · rw [upF_ne _ _ (hne t' h6), upF_ne _ _ (hne t' h6)]; exact h.gl t' h6
  · have h7 := h.hold id hi h6
    refine ⟨insI_mem.2 (.inr h7.1), ?_⟩
    show id ∈ (upF T.want t w (T.hd id)).take (upF T.got t 0 (T.hd id))
    rw [upF_ne _ _ (hne _ h7.1), upF_ne _ _ (hne _ h7.1)]
    exact h7.2
  · have hi : id ∈ (upF T.want t w t').take (upF T.got t 0 t') := hi
    rcases insI_mem.1 h6 with rfl | h6
    · rw [upF_same, upF_same] at hi; simp at hi
    · rw [upF_ne _ _ (hne t' h6), upF_ne _ _ (hne t' h6)] at hi; exact h.held t' h6 id hi
  · have h7 := h.wait id hi t' h6
    refine ⟨insI_mem.2 (.inr h7.1), ?_⟩
    show (upF T.want t w t')[upF T.got t 0 t']? = some id
    rw [upF_ne _ _ (hne _ h7.1), upF_ne _ _ (hne _ h7.1)]
    exact h7.2
  · have hn : (upF T.want t w t')[upF T.got t 0 t']? = some id := hn
    rcases insI_mem.1 h6 with rfl | h6
    · exact absurd rfl hx
    · rw [upF_ne _ _ (hne t' h6), upF_ne _ _ (hne t' h6)] at hn
      exact h.waits t' h6 (by simp) id hn
  · obtain rfl : t = t' := Option.some.inj e
    exact ⟨insI_mem.2 (.inl rfl), fun id hi h6 => h4 (h.wait id hi t h6).1⟩
theorem enter_ok {T : Tb} (h : T.Ok) {t : Int} (ht : In18 t) (w : List Int) : (T.enter t w).Ok := by
  unfold Tb.enter
  split
  · rename_i he
    exact (put_ok h ht he).ask
  · exact h

/-! ### Somebody leaves -/
theorem leave_eq {T : Tb} (h : T.Ok) {t : Int} (ht : t ∈ T.toks) {id : Int} (hi : id ∈ T.ids) : (leaveL (T.hd id) (T.wt id) t).1 = (if T.hd id = t then 0 else T.hd id) ∧ (leaveL (T.hd id) (T.wt id) t).2.1 = dropF (T.wt id) t := by
  have hp := (h.pos t ht).1
  unfold leaveL
  by_cases e : T.hd id = t
  · rw [if_pos ⟨by omega, e⟩, if_pos e]
    refine ⟨rfl, ?_⟩
    have h1 := h.hold id hi (by omega)
    rw [e] at h1
    have : t ∉ T.wt id := fun h2 => by
      have := h.nx_take ht (h.wait id hi t h2).2 h1.2
      omega
    exact (List.filter_eq_self.2 fun x hx => by simp; exact fun e => this (e ▸ hx)).symm
  · rw [if_neg (fun h => e h.2), if_neg e]
    split
    · exact ⟨rfl, rfl⟩
    · rename_i h1
      refine ⟨rfl, ?_⟩
      rw [wasF_iff] at h1
      have : t ∉ T.wt id := fun h2 => h1 (by simpa [inL] using h2)
      exact (List.filter_eq_self.2 fun x hx => by simp; exact fun e => this (e ▸ hx)).symm
/-- who is not among those that want it does not mind -/
theorem leave_far {T : Tb} (h : T.Ok) {t : Int} (ht : t ∈ T.toks) {id : Int} (hi : id ∈ T.ids) (hn : id ∉ T.want t) : (leaveL (T.hd id) (T.wt id) t).1 = T.hd id ∧ (leaveL (T.hd id) (T.wt id) t).2.1 = T.wt id := by
  obtain ⟨h1, h2⟩ := leave_eq h ht hi
  have hp := (h.pos t ht).1
  refine ⟨?_, ?_⟩
  · rw [h1, if_neg]
    intro e
    have h3 := h.hold id hi (by omega)
    rw [e] at h3
    exact hn (List.mem_of_mem_take h3.2)
  · rw [h2]
    refine List.filter_eq_self.2 fun x hx => ?_
    simp
    rintro rfl
    exact hn (nx_mem (h.wait id hi x hx).2)
theorem leave_ok {T : Tb} (h : T.Ok) (t : Int) : (T.leave t).Ok := by
  unfold Tb.leave
  split
  · rename_i ht
    have hm : ∀ x, x ∈ T.toks.filter (fun x => decide (x ≠ t)) ↔ x ∈ T.toks ∧ x ≠ t := fun x => by simp
    have hs : (T.toks.filter (fun x => decide (x ≠ t))).Sublist T.toks := List.filter_sublist
    refine { may := h.may, ris := h.ris.sublist hs, pos := fun t' h1 => h.pos t' ((hm t').1 h1).1, few := Nat.le_trans hs.length_le h.few, wr := fun t' h1 => h.wr t' ((hm t').1 h1).1, win := fun t' h1 => h.win t' ((hm t').1 h1).1, gl := fun t' h1 => h.gl t' ((hm t').1 h1).1, hold := fun id hi h1 => ?_, held := fun t' h1 id hi => ?_, wait := fun id hi t' h1 => ?_, nd := fun id hi => ?_, waits := fun t' h1 _ id hn => ?_, off := fun _ h => (by cases h) }
    · have e := (leave_eq h ht hi).1
      have h1 : (leaveL (T.hd id) (T.wt id) t).1 ≠ 0 := h1
      show (leaveL (T.hd id) (T.wt id) t).1 ∈ T.toks.filter (fun x => decide (x ≠ t)) ∧ id ∈ (T.want (leaveL (T.hd id) (T.wt id) t).1).take (T.got (leaveL (T.hd id) (T.wt id) t).1)
      rw [e] at h1 ⊢
      by_cases e2 : T.hd id = t
      · rw [if_pos e2] at h1; exact absurd rfl h1
      · rw [if_neg e2] at h1 ⊢
        have h3 := h.hold id hi h1
        exact ⟨(hm _).2 ⟨h3.1, e2⟩, h3.2⟩
    · obtain ⟨h2, h3⟩ := (hm t').1 h1
      have h4 := h.held t' h2 id hi
      have hi2 := h.win t' h2 id (List.mem_of_mem_take hi)
      show (leaveL (T.hd id) (T.wt id) t).1 = t'
      rw [(leave_eq h ht hi2).1, h4, if_neg h3]
    · have h1 : t' ∈ (leaveL (T.hd id) (T.wt id) t).2.1 := h1
      rw [(leave_eq h ht hi).2, dropF_mem] at h1
      have h3 := h.wait id hi t' h1.1
      exact ⟨(hm _).2 ⟨h3.1, h1.2⟩, h3.2⟩
    · show (leaveL (T.hd id) (T.wt id) t).2.1.Nodup
      rw [(leave_eq h ht hi).2]
      exact (h.nd id hi).sublist List.filter_sublist
    · obtain ⟨h2, h3⟩ := (hm t').1 h1
      have h4 := h.waits t' h2 (by simp) id hn
      show t' ∈ (leaveL (T.hd id) (T.wt id) t).2.1
      rw [(leave_eq h ht (h.nx_ids h2 hn)).2, dropF_mem]
      exact ⟨h4, h3⟩
  · exact h

/-! ### Aisles are granted -/
theorem give_ok {T : Tb} (h : T.Ok) {id t : Int} {r : List Int} (hi : id ∈ T.ids) (h0 : T.hd id = 0) (hw : T.wt id = t :: r) : OkX (T.give id t r) (some t) := by
  have hm : t ∈ T.wt id := by rw [hw]; simp
  obtain ⟨ht, hn⟩ := h.wait id hi t hm
  obtain ⟨hg, hge⟩ := nx_at hn
  have hnd := h.nd id hi
  rw [hw] at hnd
  obtain ⟨hn1, hn2⟩ := List.nodup_cons.1 hnd
  have hgt : ∀ t', T.got t' ≤ upF T.got t (T.got t + 1) t' := fun t' => by
    by_cases e : t' = t
    · rw [e, upF_same]; omega
    · rw [upF_ne _ _ e]; exact Nat.le_refl _
  refine { may := h.may, ris := h.ris, pos := h.pos, few := h.few, wr := h.wr, win := h.win, gl := fun t' h1 => ?_, hold := fun id' h1 h2 => ?_, held := fun t' h1 id' h2 => ?_, wait := fun id' h1 t' h2 => ?_, nd := fun id' h1 => ?_, waits := fun t' h1 hx id' h2 => ?_, off := fun t' e => ?_ }
  · show upF T.got t (T.got t + 1) t' ≤ _
    by_cases e : t' = t
    · subst e; rw [upF_same]; exact hg
    · rw [upF_ne _ _ e]; exact h.gl t' h1
  · have h2 : upF T.hd id t id' ≠ 0 := h2
    show upF T.hd id t id' ∈ T.toks ∧ id' ∈ (T.want (upF T.hd id t id')).take (upF T.got t (T.got t + 1) (upF T.hd id t id'))
    by_cases e : id' = id
    · subst e
      rw [upF_same, upF_same]
      refine ⟨ht, ?_⟩
      rw [List.take_succ_eq_append_getElem hg, hge]
      simp
    · rw [upF_ne _ _ e] at h2 ⊢
      have h3 := h.hold id' h1 h2
      exact ⟨h3.1, (List.take_prefix_take_left (hgt _)).subset h3.2⟩
  · have h2 : id' ∈ (T.want t').take (upF T.got t (T.got t + 1) t') := h2
    show upF T.hd id t id' = t'
    have hp := (h.pos t' h1).1
    by_cases e : t' = t
    · subst e
      rw [upF_same, List.take_succ_eq_append_getElem hg, hge] at h2
      rcases List.mem_append.1 h2 with h2 | h2
      · have h3 := h.held t' h1 id' h2
        have : id' ≠ id := fun e => by rw [e, h0] at h3; omega
        rw [upF_ne _ _ this]; exact h3
      · rw [List.mem_singleton.1 h2, upF_same]
    · rw [upF_ne _ _ e] at h2
      have h3 := h.held t' h1 id' h2
      have : id' ≠ id := fun e => by rw [e, h0] at h3; omega
      rw [upF_ne _ _ this]; exact h3
  · have h2 : t' ∈ upF T.wt id r id' := h2
    show t' ∈ T.toks ∧ (T.want t')[upF T.got t (T.got t + 1) t']? = some id'
    by_cases e : id' = id
    · subst e
      rw [upF_same] at h2
      have e2 : t' ≠ t := fun e => hn1 (e ▸ h2)
      rw [upF_ne _ _ e2]
      exact h.wait id' h1 t' (by rw [hw]; exact List.mem_cons_of_mem _ h2)
    · rw [upF_ne _ _ e] at h2
      have h3 := h.wait id' h1 t' h2
      have e2 : t' ≠ t := fun e2 => by
        rw [e2, hn] at h3
        exact e (Option.some.inj h3.2).symm
      rw [upF_ne _ _ e2]
      exact h3
  · show (upF T.wt id r id').Nodup
    by_cases e : id' = id
    · rw [e, upF_same]; exact hn2
    · rw [upF_ne _ _ e]; exact h.nd id' h1
  · have e : t' ≠ t := fun e => hx (by rw [e])
    have h2 : (T.want t')[upF T.got t (T.got t + 1) t']? = some id' := h2
    rw [upF_ne _ _ e] at h2
    have h3 := h.waits t' h1 (by simp) id' h2
    show t' ∈ upF T.wt id r id'
    by_cases e2 : id' = id
    · subst e2
      rw [upF_same]
      rw [hw] at h3
      exact (List.mem_cons.1 h3).resolve_left e
    · rw [upF_ne _ _ e2]; exact h3
  · obtain rfl : t = t' := Option.some.inj e
    refine ⟨ht, fun id' h1 h2 => ?_⟩
    have h2 : t ∈ upF T.wt id r id' := h2
    by_cases e : id' = id
    · rw [e, upF_same] at h2; exact hn1 h2
    · rw [upF_ne _ _ e] at h2
      have h3 := (h.wait id' h1 t h2).2
      rw [hn] at h3
      exact e (Option.some.inj h3).symm
theorem step_none {T : Tb} {id : Int} (h : T.hd id ≠ 0 ∨ T.wt id = []) : T.step id = (T, []) := by
  unfold Tb.step
  rcases h with h | h
  · rw [if_neg h]
  · rw [h]; split <;> rfl
theorem step_some {T : Tb} {id t : Int} {r : List Int} (h0 : T.hd id = 0) (hw : T.wt id = t :: r) : T.step id = ((T.give id t r).ask t, [(t, id)]) := by
  unfold Tb.step
  rw [if_pos h0, hw]
theorem step_cases (T : Tb) (id : Int) : (T.hd id ≠ 0 ∨ T.wt id = []) ∨ ∃ t r, T.hd id = 0 ∧ T.wt id = t :: r := by
  by_cases h : T.hd id = 0
  · cases hw : T.wt id with
    | nil => exact .inl (.inr rfl)
    | cons t r => exact .inr ⟨t, r, h, rfl⟩
  · exact .inl (.inl h)
theorem ask_ids (T : Tb) (t : Int) : (T.ask t).ids = T.ids ∧ (T.ask t).toks = T.toks ∧ (T.ask t).want = T.want ∧ (T.ask t).got = T.got ∧ (T.ask t).hd = T.hd := by
  unfold Tb.ask
  split <;> exact ⟨rfl, rfl, rfl, rfl, rfl⟩
theorem step_ids (T : Tb) (id : Int) : (T.step id).1.ids = T.ids ∧ (T.step id).1.toks = T.toks ∧ (T.step id).1.want = T.want := by
  rcases step_cases T id with h | ⟨t, r, h0, hw⟩
  · rw [step_none h]; exact ⟨rfl, rfl, rfl⟩
  · rw [step_some h0 hw]
    obtain ⟨h1, h2, h3, _, _⟩ := ask_ids (T.give id t r) t
    exact ⟨h1, h2, h3⟩
theorem step_ok {T : Tb} (h : T.Ok) {id : Int} (hi : id ∈ T.ids) : (T.step id).1.Ok := by
  rcases step_cases T id with h1 | ⟨t, r, h0, hw⟩
  · rw [step_none h1]; exact h
  · rw [step_some h0 hw]; exact (give_ok h hi h0 hw).ask
/-- behind its turn no lock is free for which somebody waits; those ahead stay as they were -/
theorem step_free {T : Tb} (h : T.Ok) {id : Int} (hi : id ∈ T.ids) : ((T.step id).1.hd id ≠ 0 ∨ (T.step id).1.wt id = []) ∧ ∀ a, a < id → (T.step id).1.hd a = T.hd a ∧ (T.step id).1.wt a = T.wt a := by
  rcases step_cases T id with h1 | ⟨t, r, h0, hw⟩
  · rw [step_none h1]; exact ⟨h1, fun _ _ => ⟨rfl, rfl⟩⟩
  · rw [step_some h0 hw]
    have hg := give_ok h hi h0 hw
    have ht := (hg.off t rfl).1
    have hp := (hg.pos t ht).1
    have hh : ((T.give id t r).ask t).hd = upF T.hd id t := (ask_ids (T.give id t r) t).2.2.2.2
    refine ⟨.inl ?_, fun a ha => ⟨?_, ?_⟩⟩
    · rw [hh, upF_same]; omega
    · rw [hh, upF_ne _ _ (by omega)]
    · cases hn : (T.give id t r).nx t with
      | none =>
        rw [Tb.ask_none hn]
        exact upF_ne _ _ (by omega)
      | some b =>
        rw [Tb.ask_some hn]
        have hb : id < b := by
          refine hg.nx_take ht hn ?_
          show id ∈ (T.want t).take (upF T.got t (T.got t + 1) t)
          have hm : t ∈ T.wt id := by rw [hw]; simp
          obtain ⟨hgl, hge⟩ := nx_at (h.wait id hi t hm).2
          rw [upF_same, List.take_succ_eq_append_getElem hgl, hge]
          simp
        show upF (upF T.wt id r) b _ a = T.wt a
        rw [upF_ne _ _ (by omega), upF_ne _ _ (by omega)]
theorem scanL_snoc (T : Tb) (l : List Int) (x : Int) : T.scanL (l ++ [x]) = (((T.scanL l).1.step x).1, (T.scanL l).2 ++ ((T.scanL l).1.step x).2) := by unfold Tb.scanL; rw [List.foldl_append]; rfl
theorem scanL_next (T : Tb) (l : List Int) (k : Nat) (hk : k < l.length) : T.scanL (l.take (k + 1)) = (((T.scanL (l.take k)).1.step l[k]).1, (T.scanL (l.take k)).2 ++ ((T.scanL (l.take k)).1.step l[k]).2) := by
  rw [List.take_succ_eq_append_getElem hk, scanL_snoc]
theorem scanL_ids (T : Tb) : ∀ l : List Int, (T.scanL l).1.ids = T.ids ∧ (T.scanL l).1.toks = T.toks ∧ (T.scanL l).1.want = T.want := by
  refine snoc_ind ⟨rfl, rfl, rfl⟩ fun l x ⟨h1, h2, h3⟩ => ?_
  rw [scanL_snoc]
  obtain ⟨g1, g2, g3⟩ := step_ids (T.scanL l).1 x
  exact ⟨g1.trans h1, g2.trans h2, g3.trans h3⟩
theorem scanL_ok {T : Tb} (h : T.Ok) : ∀ l : List Int, (∀ x ∈ l, x ∈ T.ids) → (T.scanL l).1.Ok := by
  refine snoc_ind (fun _ => h) fun l x ih hl => ?_
  rw [scanL_snoc]
  exact step_ok (ih fun a ha => hl a (List.mem_append_left _ ha)) (by rw [(scanL_ids T l).1]; exact hl x (by simp))
theorem scan_ok {T : Tb} (h : T.Ok) : T.scan.1.Ok := scanL_ok h _ fun _ h => h
theorem scanL_free {T : Tb} (h : T.Ok) : ∀ l : List Int, risL l → (∀ x ∈ l, x ∈ T.ids) → ∀ a ∈ l, (T.scanL l).1.hd a ≠ 0 ∨ (T.scanL l).1.wt a = [] := by
  refine snoc_ind (fun _ _ a h => (by cases h)) fun l x ih hr hl a ha => ?_
  obtain ⟨hr1, _, hr2⟩ := List.pairwise_append.1 hr
  have hl1 : ∀ a ∈ l, a ∈ T.ids := fun a ha => hl a (List.mem_append_left _ ha)
  have hx : x ∈ (T.scanL l).1.ids := by rw [(scanL_ids T l).1]; exact hl x (by simp)
  obtain ⟨h1, h2⟩ := step_free (scanL_ok h l hl1) hx
  rw [scanL_snoc]
  rcases List.mem_append.1 ha with ha | ha
  · obtain ⟨e1, e2⟩ := h2 a (hr2 a ha x (by simp))
    simp only
    rw [e1, e2]
    exact ih hr1 hl1 a ha
  · rw [List.mem_singleton.1 ha]; exact h1
theorem may_ris {l : List Int} (h : mayB l = true) : risL l := by
  unfold mayB at h
  simp only [Bool.and_eq_true] at h
  exact of_decide_eq_true h.2.1
theorem may_len {l : List Int} (h : mayB l = true) : l.length ≤ 32 := by
  unfold mayB at h
  simp only [Bool.and_eq_true, decide_eq_true_eq] at h
  exact h.1
theorem may_pos {l : List Int} (h : mayB l = true) : ∀ x ∈ l, 1 ≤ x ∧ x ≤ 999 := by
  intro x hx
  have hr := may_ris h
  unfold mayB at h
  simp only [Bool.and_eq_true, Bool.or_eq_true, decide_eq_true_eq] at h
  obtain ⟨_, _, h | ⟨h1, h2⟩⟩ := h
  · rw [List.eq_nil_of_length_eq_zero h] at hx; cases hx
  · obtain ⟨i, hi, rfl⟩ := List.getElem_of_mem hx
    rw [List.getElem?_eq_getElem (by omega)] at h1 h2
    simp only [Option.getD_some] at h1 h2
    have h3 : l[0] ≤ l[i] := by
      rcases Nat.eq_zero_or_pos i with rfl | h3
      · exact Int.le_refl _
      · exact Int.le_of_lt (List.pairwise_iff_getElem.1 hr 0 i (by omega) hi h3)
    have h4 : l[i] ≤ l[l.length - 1] := by
      by_cases h4 : i = l.length - 1
      · subst h4; exact Int.le_refl _
      · exact Int.le_of_lt (List.pairwise_iff_getElem.1 hr i (l.length - 1) hi (by omega) (by omega))
    omega
theorem scan_free {T : Tb} (h : T.Ok) : ∀ a ∈ T.ids, T.scan.1.hd a ≠ 0 ∨ T.scan.1.wt a = [] := scanL_free h _ (may_ris h.may) fun _ h => h
theorem new_ok {ids : List Int} (h : mayB ids = true) : (Tb.new ids).Ok where
  may := h
  ris := List.Pairwise.nil
  pos := fun _ h => (by cases h)
  few := Nat.zero_le _
  wr := fun _ h => (by cases h)
  win := fun _ h => (by cases h)
  gl := fun _ h => (by cases h)
  hold := fun _ _ h => absurd rfl h
  held := fun _ h => (by cases h)
  wait := fun _ _ _ h => (by cases h)
  nd := fun _ _ => List.nodup_nil
  waits := fun _ h => (by cases h)
  off := fun _ h => (by cases h)

theorem OwnR.lt {α : Type} {w : World} {B : Nat} {e : TypeId} {K : Nat} {cs : α → List Value} {v : Value} {l : List α} (h : OwnR w B e K cs v l) : ∀ k, v.ownBlock = some k → B ≤ k ∧ k < w.heap.size := fun k hk => ⟨(World.ownsRow.lt h k hk).1, (World.ownsRow.lt h k hk).2⟩
theorem OwnR.sameB {α : Type} {w w' : World} {B : Nat} {e : TypeId} {K : Nat} {cs : α → List Value} {v : Value} {l : List α} (h : OwnR w B e K cs v l) (he : ∀ k, v.ownBlock = some k → w'.heap[k]? = w.heap[k]?) : OwnR w' B e K cs v l := by
  refine ⟨h.1, ?_⟩
  rcases h.2 with h1 | ⟨g, cap, cur, e1, hg, hr⟩
  · exact .inl h1
  · refine .inr ⟨g, cap, cur, e1, hg, ?_⟩
    rw [he g (by rw [e1]; rfl)]
    exact hr
end Go.Proofs.YtjmgokjljmmmgaaGreat
/- Lists of one's own (XOwnO): a thing laid in place, the first ones alone, what stands at a place. FOR ALL STAGES WITH STATE. -/
namespace Go.Proofs.YtjmgokjljmmmgaaGreat
open Go.RowKit

section
variable {α : Type} {w w' : World} {K : Nat} {cs : α → List Value} {v : Value} {l : List α}
theorem OwnO.spot (hK : ∀ x, (cs x).length = K) (h : OwnO w K cs v l) (i : Nat) (hi : i < l.length) : ∃ g o cap, v = .slice (some ⟨g, o, none⟩) l.length cap ∧ g < w.heap.size ∧ l.length ≤ cap ∧
    ∀ j u, (cs l[i])[j]? = some u → w.cell? ⟨g, o + i * K + j, none⟩ = some u ∧ w.frozen? ⟨g, o + i * K + j, none⟩ = false := by
  have hr := h.rows hK
  rcases h with ⟨_, rfl⟩ | ⟨g, o, cap, rfl, hg, hl, hc, h1, h2⟩
  · simp at hi
  · obtain ⟨a, c, e, _, hx⟩ := hr
    cases e
    obtain ⟨g', o', e, _, hx⟩ := hx (by omega)
    cases e
    refine ⟨g, o, cap, rfl, hg, hl, fun j u hu => ⟨hx i l[i] (List.getElem?_eq_getElem hi) j u hu, ?_⟩⟩
    have hj : j < K := by rw [← hK l[i]]; exact (List.getElem?_eq_some_iff.1 hu).1
    have := (h2 (i * K + j) (by
      have h3 : (i + 1) * K ≤ cap * K := Nat.mul_le_mul_right K (by omega)
      rw [Nat.add_mul] at h3
      omega)).2
    rwa [← Nat.add_assoc] at this
theorem OwnO.put (hK : ∀ x, (cs x).length = K) {g o n cap : Nat} (h : OwnO w K cs (.slice (some ⟨g, o, none⟩) n cap) l) (i : Nat) (hi : i < l.length) (x : α) (hz : w.heap.size ≤ w'.heap.size)
    (hin : ∀ j, j < K → w'.cell? ⟨g, o + i * K + j, none⟩ = (cs x)[j]?)
    (hout : ∀ m, m < cap * K → ¬ (i * K ≤ m ∧ m < i * K + K) → w'.cell? ⟨g, o + m, none⟩ = w.cell? ⟨g, o + m, none⟩)
    (hfz : ∀ a, w'.frozen? a = w.frozen? a) : OwnO w' K cs (.slice (some ⟨g, o, none⟩) n cap) (l.set i x) := by
  rcases h with ⟨e, _⟩ | ⟨g', o', cap', e, hg, hl, hc, h1, h2⟩
  · cases e
  · cases e
    refine .inr ⟨g, o, cap, by rw [List.length_set], by omega, by rw [List.length_set]; exact hl, hc, fun m hm => ?_, fun m hm => ⟨?_, by rw [hfz]; exact (h2 m hm).2⟩⟩
    · rw [List.length_set] at hm
      have hK0 : 0 < K := Nat.pos_of_ne_zero fun e => by subst e; simp at hm
      have hq : m / K < l.length := (Nat.div_lt_iff_lt_mul hK0).2 hm
      have hr : m % K < K := Nat.mod_lt _ hK0
      have e : m / K * K + m % K = m := by rw [Nat.mul_comm]; exact Nat.div_add_mod m K
      have hmc : m < cap * K := Nat.lt_of_lt_of_le hm (Nat.mul_le_mul_right K hl)
      by_cases hqi : m / K = i
      · have hu : (cs x)[m % K]? = some ((cs x)[m % K]'(by rw [hK]; exact hr)) := List.getElem?_eq_getElem _
        have h3 := flats_at hK (l.set i x) (m / K) x (by rw [List.getElem?_set, if_pos hqi.symm, if_pos hi]) (m % K) _ hu
        rw [e] at h3
        rw [h3, ← hu, ← hin _ hr, ← hqi, Nat.add_assoc, e]
      · have hu : (cs l[m / K])[m % K]? = some ((cs l[m / K])[m % K]'(by rw [hK]; exact hr)) := List.getElem?_eq_getElem _
        have h3 := flats_at hK (l.set i x) (m / K) l[m / K] (by rw [List.getElem?_set, if_neg (fun h => hqi h.symm)]; exact List.getElem?_eq_getElem hq) (m % K) _ hu
        have h4 := flats_at hK l (m / K) l[m / K] (List.getElem?_eq_getElem hq) (m % K) _ hu
        rw [e] at h3 h4
        rw [h3, ← h4, ← h1 m hm]
        refine hout m hmc fun hh => hqi ?_
        have h5 : m / K < i + 1 := (Nat.div_lt_iff_lt_mul hK0).2 (by rw [Nat.add_mul]; omega)
        have h6 : i ≤ m / K := (Nat.le_div_iff_mul_le hK0).2 hh.1
        omega
    · by_cases hh : i * K ≤ m ∧ m < i * K + K
      · have := hin (m - i * K) (by omega)
        rw [Nat.add_assoc, show i * K + (m - i * K) = m by omega] at this
        rw [this, List.getElem?_eq_getElem (by rw [hK]; omega)]
        rfl
      · rw [hout m hm hh]
        exact (h2 m hm).1
/-- the first k of them -/
theorem OwnO.take {a : Option Addr} {n cap : Nat} (hK : ∀ x, (cs x).length = K) (h : OwnO w K cs (.slice a n cap) l) (k : Nat) (hk : k ≤ l.length) : OwnO w K cs (.slice a k cap) (l.take k) := by
  rcases h with ⟨e, rfl⟩ | ⟨g, o, cap', e, hg, hl, hc, h1, h2⟩
  · cases e
    have : k = 0 := by simpa using hk
    subst this
    exact .inl ⟨rfl, rfl⟩
  · cases e
    have hlen : (l.take k).length = k := by rw [List.length_take]; omega
    refine .inr ⟨g, o, cap, by rw [hlen], hg, by omega, hc, fun m hm => ?_, h2⟩
    rw [hlen] at hm
    have hm2 : m < l.length * K := Nat.lt_of_lt_of_le hm (Nat.mul_le_mul_right K hk)
    rw [h1 m hm2]
    have e : flats cs l = flats cs (l.take k) ++ flats cs (l.drop k) := by rw [← flats_append, List.take_append_drop]
    rw [e, List.getElem?_append_left (by rw [flats_length hK, hlen]; exact hm)]
/-- a struct of three cells is stored -/
theorem OwnO.put3 {g o n cap : Nat} (hK : ∀ x, (cs x).length = 3) (h : OwnO w 3 cs (.slice (some ⟨g, o, none⟩) n cap) l) (i : Nat) (hi : i < l.length) (x : α) (u0 u1 u2 : Value) (hx : cs x = [u0, u1, u2]) :
    OwnO (((w.setCell ⟨g, o + i * 3, none⟩ u0).setCell ⟨g, o + i * 3 + 1, none⟩ u1).setCell ⟨g, o + i * 3 + 2, none⟩ u2) 3 cs (.slice (some ⟨g, o, none⟩) n cap) (l.set i x) := by
  have hl : l.length ≤ cap := by
    rcases h with ⟨e, _⟩ | ⟨g', o', cap', e, hg, hl, _⟩
    · cases e
    · cases e; exact hl
  have hs : ∀ j, j < 3 → (w.cell? ⟨g, o + i * 3 + j, none⟩).isSome = true := by
    intro j hj
    rcases h with ⟨e, _⟩ | ⟨g', o', cap', e, hg, hl, hc, h1, h2⟩
    · cases e
    · cases e
      have := (h2 (i * 3 + j) (by omega)).1
      rwa [← Nat.add_assoc] at this
  refine OwnO.put hK h i hi x (by simp [World.setCell]) (fun j hj => ?_) (fun m hm hh => ?_) (fun a => by rw [World.frozen?_setCell, World.frozen?_setCell, World.frozen?_setCell])
  · rw [hx]
    have hs0 := hs 0 (by omega)
    have hs1 := hs 1 (by omega)
    have hs2 := hs 2 (by omega)
    rw [Nat.add_zero] at hs0
    match j, hj with
    | 0, _ =>
      rw [Nat.add_zero, World.cell?_setCell_other _ _ _ _ (by intro e; simp at e), World.cell?_setCell_other _ _ _ _ (by intro e; simp at e)]
      obtain ⟨y, hy⟩ := Option.isSome_iff_exists.1 hs0
      exact World.cell?_setCell_same _ _ _ (by rw [hy])
    | 1, _ =>
      rw [World.cell?_setCell_other _ _ _ _ (by intro e; simp at e)]
      obtain ⟨y, hy⟩ := Option.isSome_iff_exists.1 hs1
      exact World.cell?_setCell_same _ _ _ (by rw [World.cell?_setCell_other _ _ _ _ (by intro e; simp at e), hy])
    | 2, _ =>
      obtain ⟨y, hy⟩ := Option.isSome_iff_exists.1 hs2
      exact World.cell?_setCell_same _ _ _ (by rw [World.cell?_setCell_other _ _ _ _ (by intro e; simp at e), World.cell?_setCell_other _ _ _ _ (by intro e; simp at e), hy])
  · rw [World.cell?_setCell_other _ _ _ _ (by intro e; injection e; omega), World.cell?_setCell_other _ _ _ _ (by intro e; injection e; omega), World.cell?_setCell_other _ _ _ _ (by intro e; injection e; omega)]
end
end Go.Proofs.YtjmgokjljmmmgaaGreat
/- Stage 20: a table of the document's in memory while it is worked on: its rows are its own; ask. -/
namespace Go.Proofs.YtjmgokjljmmmgaaGreat
open Go.RowKit

def lkp (x : Lr) : Int × Int × List Int := (x.id, x.holder, x.wait)
def stp (x : Sr) : Int × Int × List Int := (x.token, x.got, x.want)
def Tb.lks (T : Tb) : List (Int × Int × List Int) := T.ids.map fun id => (id, T.hd id, T.wt id)
def Tb.sts (T : Tb) : List (Int × Int × List Int) := T.toks.map fun t => (t, (T.got t : Int), T.want t)
abbrev Lr.val (x : Lr) : Value := .agg #[.int .i64 x.id, .int .i64 x.holder, x.v]
abbrev Sr.val (x : Sr) : Value := .agg #[.int .i64 x.token, .int .i64 x.got, x.v]
theorem csL_one1 (x : Lr) : ∀ u ∈ csL x, u.oneCell' = true := csL_one x

/-- its rows are new (from B on) and may be written; its lists lie apart from them, in G or new -/
structure WkAt (w : World) (B : Nat) (G : Nat → Prop) (vl vs : Value) (Ls : List Lr) (Ss : List Sr) : Prop where
  lr : RowsAt w 3 csL vl Ls
  lo : Ls ≠ [] → OwnO w 3 csL vl Ls ∧ ∀ g, vl.ownBlock = some g → B ≤ g
  sr : RowsAt w 3 csSt vs Ss
  so : Ss ≠ [] → OwnO w 3 csSt vs Ss ∧ ∀ g, vs.ownBlock = some g → B ≤ g
  ne : Ls ≠ [] → Ss ≠ [] → vl.ownBlock ≠ vs.ownBlock
  el : ∀ x ∈ Ls, IntsAt w x.v x.wait ∧ (0 < x.wait.length → ∀ k, x.v.ownBlock = some k → (G k ∨ B ≤ k) ∧ vl.ownBlock ≠ some k ∧ (Ss ≠ [] → vs.ownBlock ≠ some k))
  es : ∀ x ∈ Ss, IntsAt w x.v x.want ∧ (0 < x.want.length → ∀ k, x.v.ownBlock = some k → (G k ∨ B ≤ k) ∧ (Ls ≠ [] → vl.ownBlock ≠ some k) ∧ vs.ownBlock ≠ some k)
theorem IntsAt.lt {w : World} {v : Value} {l : List Int} (h : IntsAt w v l) (h0 : 0 < l.length) : ∀ k, v.ownBlock = some k → k < w.heap.size := h.rows.lt h0
theorem IntsAt.same {w w' : World} {v : Value} {l : List Int} (h : IntsAt w v l) (hz : w.heap.size ≤ w'.heap.size) (he : 0 < l.length → ∀ k, v.ownBlock = some k → w'.heap[k]? = w.heap[k]?) : IntsAt w' v l := (RowsAt.same h.rows hz fun h0 g hg => he h0 g hg).ints
section
variable {w w1 w' : World} {B : Nat} {G : Nat → Prop} {vl vs : Value} {Ls : List Lr} {Ss : List Sr}
/-- nothing of it has changed -/
theorem WkAt.same (h : WkAt w B G vl vs Ls Ss) (hz : w.heap.size ≤ w'.heap.size) (he : ∀ k, k < w.heap.size → (G k ∨ B ≤ k) → w'.heap[k]? = w.heap[k]?) : WkAt w' B G vl vs Ls Ss where
  lr := h.lr.same hz fun h0 g hg => he g (h.lr.lt h0 g hg) (.inr ((h.lo (List.length_pos_iff.1 h0)).2 g hg))
  lo h0 := ⟨(h.lo h0).1.same hz fun g hg => he g ((h.lo h0).1.lt g hg) (.inr ((h.lo h0).2 g hg)), (h.lo h0).2⟩
  sr := h.sr.same hz fun h0 g hg => he g (h.sr.lt h0 g hg) (.inr ((h.so (List.length_pos_iff.1 h0)).2 g hg))
  so h0 := ⟨(h.so h0).1.same hz fun g hg => he g ((h.so h0).1.lt g hg) (.inr ((h.so h0).2 g hg)), (h.so h0).2⟩
  ne := h.ne
  el x hx := ⟨(h.el x hx).1.same hz fun h0 k hk => he k ((h.el x hx).1.lt h0 k hk) ((h.el x hx).2 h0 k hk).1, (h.el x hx).2⟩
  es x hx := ⟨(h.es x hx).1.same hz fun h0 k hk => he k ((h.es x hx).1.lt h0 k hk) ((h.es x hx).2 h0 k hk).1, (h.es x hx).2⟩
theorem WkAt.kept (h : WkAt w B G vl vs Ls Ss) (hb : Below w.heap.size w w') : WkAt w' B G vl vs Ls Ss := h.same hb.size fun k hk _ => hb.block k hk
theorem WkAt.locks (h : WkAt w B G vl vs Ls Ss) : LocksAt w vl Ls := ⟨h.lr, fun x hx => (h.el x hx).1⟩
theorem WkAt.seats (h : WkAt w B G vl vs Ls Ss) : SeatsAt w vs Ss := ⟨h.sr, fun x hx => (h.es x hx).1⟩
/-- a store at a place that is none of its -/
theorem WkAt.away (h : WkAt w B G vl vs Ls Ss) (p : Addr) (u : Value) (hp : ¬ G p.block ∧ p.block < B) : WkAt (w.setCell p u) B G vl vs Ls Ss :=
  h.same (by simp [World.setCell]) fun k _ hk => Below.heap_setCell w p u k fun e => by
    subst e
    rcases hk with hk | hk
    · exact hp.1 hk
    · omega
/-- a lock is written -/
theorem WkAt.put (h : WkAt w B G vl vs Ls Ss) (hb : Below w.heap.size w w1) (hB : B ≤ w.heap.size) (i : Nat) (hi : i < Ls.length) (x : Lr) (hx : IntsAt w1 x.v x.wait) (hf : FromV Ls[i].v x.v Ls[i].wait.length x.wait.length w.heap.size)
    {g o n c : Nat} (hv : vl = .slice (some ⟨g, o, none⟩) n c) :
    WkAt (((w1.setCell ⟨g, o + i * 3, none⟩ (.int .i64 x.id)).setCell ⟨g, o + i * 3 + 1, none⟩ (.int .i64 x.holder)).setCell ⟨g, o + i * 3 + 2, none⟩ x.v) B G vl vs (Ls.set i x) Ss ∧
    Only (fun k => vl.ownBlock = some k) w (((w1.setCell ⟨g, o + i * 3, none⟩ (.int .i64 x.id)).setCell ⟨g, o + i * 3 + 1, none⟩ (.int .i64 x.holder)).setCell ⟨g, o + i * 3 + 2, none⟩ x.v) := by
  have hne : Ls ≠ [] := List.ne_nil_of_length_pos (by omega)
  have hne2 : Ls.set i x ≠ [] := List.ne_nil_of_length_pos (by rw [List.length_set]; omega)
  have k1 := h.kept hb
  have hgo : vl.ownBlock = some g := by rw [hv]; rfl
  have hz : w1.heap.size ≤ (((w1.setCell ⟨g, o + i * 3, none⟩ (.int .i64 x.id)).setCell ⟨g, o + i * 3 + 1, none⟩ (.int .i64 x.holder)).setCell ⟨g, o + i * 3 + 2, none⟩ x.v).heap.size := by simp [World.setCell]
  have hout : ∀ k, k ≠ g → (((w1.setCell ⟨g, o + i * 3, none⟩ (.int .i64 x.id)).setCell ⟨g, o + i * 3 + 1, none⟩ (.int .i64 x.holder)).setCell ⟨g, o + i * 3 + 2, none⟩ x.v).heap[k]? = w1.heap[k]? := fun k hk => by
    rw [Below.heap_setCell _ _ _ _ hk, Below.heap_setCell _ _ _ _ hk, Below.heap_setCell _ _ _ _ hk]
  have hown := ((k1.lo hne).1)
  rw [hv] at hown
  have hp := OwnO.put3 csL_len hown i hi x _ _ _ rfl
  rw [← hv] at hp
  have hgz : g < w.heap.size := (h.lo hne).1.lt g hgo
  refine ⟨⟨OwnO.rows csL_len hp, fun _ => ⟨hp, (h.lo hne).2⟩, k1.sr.same hz fun h0 k hk => hout k (fun e => ?_), fun h0 => ⟨(k1.so h0).1.same hz fun k hk => hout k (fun e => ?_), (h.so h0).2⟩, fun _ h0 => h.ne hne h0, fun y hy => ?_, fun y hy => ⟨(k1.es y hy).1.same hz fun h0 k hk => hout k (fun e => ?_), fun h0 k hk => ⟨((h.es y hy).2 h0 k hk).1, fun _ => ((h.es y hy).2 h0 k hk).2.1 hne, ((h.es y hy).2 h0 k hk).2.2⟩⟩⟩, ?_⟩
  · exact h.ne hne (List.length_pos_iff.1 h0) (by rw [hgo, hk, e])
  · exact h.ne hne h0 (by rw [hgo, hk, e])
  · rcases List.mem_or_eq_of_mem_set hy with hy | rfl
    · exact ⟨(k1.el y hy).1.same hz fun h0 k hk => hout k (fun e => ((h.el y hy).2 h0 k hk).2.1 (by rw [hgo, e])), (h.el y hy).2⟩
    · have hin := h.el Ls[i] (List.getElem_mem hi)
      have hk0 : 0 < y.wait.length → ∀ k, y.v.ownBlock = some k → (G k ∨ B ≤ k) ∧ vl.ownBlock ≠ some k ∧ (Ss ≠ [] → vs.ownBlock ≠ some k) := fun h0 k hk => by
        rcases hf h0 k hk with ⟨h1, h2⟩ | h1
        · exact hin.2 h2 k h1
        · refine ⟨.inr (by omega), fun e => ?_, fun h2 e => ?_⟩
          · rw [hgo] at e
            have := Option.some.inj e
            omega
          · have := (h.so h2).1.lt k e
            omega
      exact ⟨hx.same hz fun h0 k hk => hout k (fun e => (hk0 h0 k hk).2.1 (by rw [hgo, e])), hk0⟩
  · exact ((h.es y hy).2 h0 k hk).2.1 hne (by rw [hgo, e])
  · exact ((((Only.of_below hb).set ⟨g, o + i * 3, none⟩ _ hgo).set ⟨g, o + i * 3 + 1, none⟩ _ hgo).set ⟨g, o + i * 3 + 2, none⟩ _ hgo)
/-- a seat's Got is written -/
theorem WkAt.inc (h : WkAt w B G vl vs Ls Ss) (i : Nat) (hi : i < Ss.length) (n' : Int) {g o n c : Nat} (hv : vs = .slice (some ⟨g, o, none⟩) n c) :
    WkAt (w.setCell ⟨g, o + i * 3 + 1, none⟩ (.int .i64 n')) B G vl vs Ls (Ss.set i { Ss[i] with got := n' }) ∧ Only (fun k => vs.ownBlock = some k) w (w.setCell ⟨g, o + i * 3 + 1, none⟩ (.int .i64 n')) := by
  have hne : Ss ≠ [] := List.ne_nil_of_length_pos (by omega)
  have hgo : vs.ownBlock = some g := by rw [hv]; rfl
  have hz : w.heap.size ≤ (w.setCell ⟨g, o + i * 3 + 1, none⟩ (.int .i64 n')).heap.size := by simp [World.setCell]
  have hout : ∀ k, k ≠ g → (w.setCell ⟨g, o + i * 3 + 1, none⟩ (.int .i64 n')).heap[k]? = w.heap[k]? := fun k hk => Below.heap_setCell _ _ _ _ hk
  have hown := (h.so hne).1
  rw [hv] at hown
  obtain ⟨g', o', c', e, _, _, hsp⟩ := OwnO.spot csSt_len hown i hi
  cases e
  have hp : OwnO (w.setCell ⟨g, o + i * 3 + 1, none⟩ (.int .i64 n')) 3 csSt (.slice (some ⟨g, o, none⟩) Ss.length c) (Ss.set i { Ss[i] with got := n' }) := by
    refine OwnO.put csSt_len hown i hi _ hz (fun j hj => ?_) (fun m _ hm => ?_) (fun a => World.frozen?_setCell _ _ _ _)
    · match j, hj with
      | 0, _ =>
        rw [World.cell?_setCell_other _ _ _ _ (by intro e; simp at e)]
        exact (hsp 0 _ rfl).1
      | 1, _ => exact World.cell?_setCell_same _ _ _ (by rw [(hsp 1 _ rfl).1])
      | 2, _ =>
        rw [World.cell?_setCell_other _ _ _ _ (by intro e; simp at e)]
        exact (hsp 2 _ rfl).1
    · exact World.cell?_setCell_other _ _ _ _ (by intro e; injection e; omega)
  rw [← hv] at hp
  refine ⟨⟨h.lr.same hz fun h0 k hk => hout k (fun e => h.ne (List.length_pos_iff.1 h0) hne (by rw [hgo, hk, e])), fun h0 => ⟨(h.lo h0).1.same hz fun k hk => hout k (fun e => h.ne h0 hne (by rw [hgo, hk, e])), (h.lo h0).2⟩, OwnO.rows csSt_len hp, fun _ => ⟨hp, (h.so hne).2⟩, fun h0 _ => h.ne h0 hne,
    fun y hy => ⟨(h.el y hy).1.same hz fun h0 k hk => hout k (fun e => ((h.el y hy).2 h0 k hk).2.2 hne (by rw [hgo, e])), fun h0 k hk => ⟨((h.el y hy).2 h0 k hk).1, ((h.el y hy).2 h0 k hk).2.1, fun _ => ((h.el y hy).2 h0 k hk).2.2 hne⟩⟩, fun y hy => ?_⟩, (Only.refl _ _).set ⟨g, o + i * 3 + 1, none⟩ _ hgo⟩
  rcases List.mem_or_eq_of_mem_set hy with hy | rfl
  · exact ⟨(h.es y hy).1.same hz fun h0 k hk => hout k (fun e => ((h.es y hy).2 h0 k hk).2.2 (by rw [hgo, e])), (h.es y hy).2⟩
  · have hy := List.getElem_mem hi
    exact ⟨(h.es _ hy).1.same hz fun h0 k hk => hout k (fun e => ((h.es _ hy).2 h0 k hk).2.2 (by rw [hgo, e])), (h.es _ hy).2⟩
end

/-- a lock that a call hands back, its list with it; e: what stands beside it -/
def lkLk (id h : Int) (m : Nat) (L : List Int) (e : Value) (va : Value) (n B : Nat) : Lk :=
  ⟨Option Addr × Nat, ⟨(none, 0)⟩, fun x => .tuple #[lkv id h (.slice x.1 m x.2), e], fun x w => IntsAt w (.slice x.1 m x.2) L ∧ FromV va (.slice x.1 m x.2) n m B⟩
theorem lkLk_at {P : Program} {o : Oper} {a : Act} {W : World} {Gq : World → Prop} {id h : Int} {m : Nat} {L : List Int} {e va : Value} {n B : Nat} {f : FuncId} {args : Array Value} (hm : L.length = m) (hB : B ≤ W.heap.size) (he : ∀ k : In W, (execOp a.eval o).run P k.w = .ok (.enter f args) k.w)
    (hc : ∀ k : In W, Calls P f args k.w fun x w' => ∃ v, x = .returned (.tuple #[lkv id h v, e]) ∧ IntsAt w' v L ∧ FromV va v n L.length k.w.heap.size ∧ Below k.w.heap.size k.w w') : (lkLk id h m L e va n B).at P o a W Gq :=
  ⟨fun _ _ _ h hb => ⟨IntsAt.below h.1 hb, h.2⟩, fun k _ => by
    subst hm
    rw [he k]
    refine ⟨rfl, (hc k).mono ?_⟩
    rintro x w' ⟨v, rfl, h1, h2, h3⟩
    obtain ⟨b, c, rfl⟩ := h1.form
    exact ⟨(b, c), rfl, ⟨h1, fun h0 j hj => (h2 h0 j hj).imp (fun h => h) fun h => Nat.le_trans hB (Nat.le_trans k.h.size h)⟩, h3.mono k.h.size⟩⟩

end Go.Proofs.YtjmgokjljmmmgaaGreat
