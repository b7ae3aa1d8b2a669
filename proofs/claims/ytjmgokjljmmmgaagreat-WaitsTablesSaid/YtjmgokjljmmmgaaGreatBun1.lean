/- Texts of this proof, joined: GraphMath; IntsAt; Region. -/
import Derived.Test.YtjmgokjljmmmgaaGreatRows
import Derived.WalkKit
import Derived.ChangeSlices
import Derived.WideShapes
import Derived.Below
import Derived.BigQuiet
import Derived.StillTail
/- Stage 16: graphs by definition: plain definitions, with what the walks ask of them. -/
namespace Go.Proofs.YtjmgokjljmmmgaaGreat

structure Arc16 where
  src : Int
  dst : Int
deriving DecidableEq, Inhabited

/-- is it in the list -/
def inL (l : List Int) (n : Int) : Bool := decide (n ∈ l)

/-! ### Set -/
def stepS (x : Int) (s : List Int × Bool) (y : Int) : List Int × Bool :=
  let s1 := if !s.2 && decide (x ≤ y) then (s.1 ++ [x], true) else s
  (if y = x then s1.1 else s1.1 ++ [y], s1.2)
def insP (x : Int) (l : List Int) : List Int × Bool := l.foldl (stepS x) ([], false)
def insS (x : Int) (l : List Int) : List Int := if (insP x l).2 then (insP x l).1 else (insP x l).1 ++ [x]
def setL (l : List Int) : List Int := l.foldl (fun out x => insS x out) []
theorem insP_take (x : Int) (l : List Int) (k : Nat) (hk : k < l.length) : insP x (l.take (k + 1)) = stepS x (insP x (l.take k)) l[k] := by
  unfold insP
  rw [List.take_succ_eq_append_getElem hk, List.foldl_append]
  rfl
theorem setL_take (l : List Int) (k : Nat) (hk : k < l.length) : setL (l.take (k + 1)) = insS l[k] (setL (l.take k)) := by
  unfold setL
  rw [List.take_succ_eq_append_getElem hk, List.foldl_append]
  rfl
theorem stepS_len (x : Int) (s : List Int × Bool) (y : Int) : (stepS x s y).1.length + (if (stepS x s y).2 then 0 else 1) ≤ s.1.length + 1 + (if s.2 then 0 else 1) := by
  unfold stepS
  obtain ⟨a, d⟩ := s
  cases d <;> by_cases h : x ≤ y <;> by_cases h2 : y = x <;> simp [h, h2] <;> omega
theorem insP_len (x : Int) (l : List Int) : ∀ k, (insP x (l.take k)).1.length + (if (insP x (l.take k)).2 then 0 else 1) ≤ k + 1
  | 0 => by simp [insP]
  | k + 1 => by
    have ih := insP_len x l k
    by_cases hk : k < l.length
    · rw [insP_take x l k hk]
      have := stepS_len x (insP x (l.take k)) l[k]
      omega
    · rw [List.take_of_length_le (by omega), ← List.take_of_length_le (show l.length ≤ k by omega)]
      omega
theorem insS_len (x : Int) (l : List Int) : (insS x l).length ≤ l.length + 1 := by
  have h := insP_len x l l.length
  rw [List.take_length] at h
  unfold insS
  split
  · rename_i h2
    rw [if_pos h2] at h
    omega
  · rename_i h2
    rw [if_neg h2] at h
    rw [List.length_append]
    simp
    omega
theorem setL_len (l : List Int) : ∀ k, (setL (l.take k)).length ≤ k
  | 0 => by simp [setL]
  | k + 1 => by
    have ih := setL_len l k
    by_cases hk : k < l.length
    · rw [setL_take l k hk]
      have := insS_len l[k] (setL (l.take k))
      omega
    · rw [List.take_of_length_le (by omega), ← List.take_of_length_le (show l.length ≤ k by omega)]
      omega
theorem setL_le (l : List Int) : (setL l).length ≤ l.length := by
  have := setL_len l l.length
  rwa [List.take_length] at this
/-- rising -/
def risL (l : List Int) : Prop := l.Pairwise fun a b => a < b
theorem foldS_done (x : Int) : ∀ (l a : List Int), (∀ y ∈ l, y ≠ x) → l.foldl (stepS x) (a, true) = (a ++ l, true)
  | [], a, _ => by simp
  | y :: t, a, h => by
    have h1 : stepS x (a, true) y = (a ++ [y], true) := by simp [stepS, h y]
    rw [List.foldl_cons, h1, foldS_done x t _ fun z hz => h z (List.mem_cons_of_mem _ hz), List.append_assoc]
    rfl
theorem foldS (x : Int) : ∀ (l a : List Int), risL l → l.foldl (stepS x) (a, false) = if (∃ y ∈ l, x ≤ y) then (a ++ (l.filter (fun y => decide (y < x)) ++ x :: l.filter (fun y => decide (x < y))), true) else (a ++ l, false)
  | [], a, _ => by simp
  | y :: t, a, hl => by
    have h0 := List.pairwise_cons.1 hl
    rw [List.foldl_cons]
    by_cases hy : x ≤ y
    · have hd : ∀ z ∈ t, z ≠ x := fun z hz => by have := h0.1 z hz; omega
      have e1 : (y :: t).filter (fun y => decide (y < x)) = [] := List.filter_eq_nil_iff.2 fun z hz => by
        rcases List.mem_cons.1 hz with rfl | hz
        · simp; omega
        · have := h0.1 z hz; simp; omega
      have e2 : t.filter (fun y => decide (x < y)) = t := List.filter_eq_self.2 fun z hz => by have := h0.1 z hz; simp; omega
      rw [if_pos ⟨y, List.mem_cons_self, hy⟩, e1, List.nil_append]
      by_cases hyx : y = x
      · subst hyx
        have h1 : stepS y (a, false) y = (a ++ [y], true) := by simp [stepS]
        have e3 : (y :: t).filter (fun z => decide (y < z)) = t := by rw [List.filter_cons_of_neg (by simp), e2]
        rw [h1, foldS_done y t _ hd, e3, List.append_assoc]
        rfl
      · have h1 : stepS x (a, false) y = (a ++ [x] ++ [y], true) := by simp [stepS, hy, hyx]
        have e3 : (y :: t).filter (fun z => decide (x < z)) = y :: t := by rw [List.filter_cons_of_pos (by simp; omega), e2]
        rw [h1, foldS_done x t _ hd, e3]
        simp
    · have h1 : stepS x (a, false) y = (a ++ [y], false) := by
        have : y ≠ x := by omega
        simp [stepS, hy, this]
      rw [h1, foldS x t _ h0.2]
      by_cases hex : ∃ z ∈ t, x ≤ z
      · obtain ⟨z, hz, hxz⟩ := hex
        rw [if_pos ⟨z, hz, hxz⟩, if_pos ⟨z, List.mem_cons_of_mem _ hz, hxz⟩, List.filter_cons_of_pos (by simp; omega), List.filter_cons_of_neg (by simp; omega)]
        simp
      · rw [if_neg hex, if_neg (fun ⟨z, hz, hxz⟩ => by
          rcases List.mem_cons.1 hz with rfl | hz
          · exact hy hxz
          · exact hex ⟨z, hz, hxz⟩)]
        simp
theorem insS_is (x : Int) {l : List Int} (hl : risL l) : insS x l = l.filter (fun y => decide (y < x)) ++ x :: l.filter (fun y => decide (x < y)) := by
  unfold insS insP
  rw [foldS x l [] hl]
  by_cases hex : ∃ z ∈ l, x ≤ z
  · rw [if_pos hex]
    simp
  · rw [if_neg hex]
    have e1 : l.filter (fun y => decide (y < x)) = l := List.filter_eq_self.2 fun z hz => by
      have : ¬ x ≤ z := fun h => hex ⟨z, hz, h⟩
      simp; omega
    have e2 : l.filter (fun y => decide (x < y)) = [] := List.filter_eq_nil_iff.2 fun z hz => by
      have : ¬ x ≤ z := fun h => hex ⟨z, hz, h⟩
      simp; omega
    rw [e1, e2]
    simp
theorem insS_ris (x : Int) {l : List Int} (hl : risL l) : risL (insS x l) := by
  rw [insS_is x hl]
  refine List.pairwise_append.2 ⟨List.Pairwise.filter _ hl, List.pairwise_cons.2 ⟨fun y hy => by simpa using (List.mem_filter.1 hy).2, List.Pairwise.filter _ hl⟩, fun a ha b hb => ?_⟩
  have h1 : a < x := by simpa using (List.mem_filter.1 ha).2
  rcases List.mem_cons.1 hb with rfl | hb
  · exact h1
  · have h2 : x < b := by simpa using (List.mem_filter.1 hb).2
    omega
theorem insS_mem (x a : Int) {l : List Int} (hl : risL l) : a ∈ insS x l ↔ a = x ∨ a ∈ l := by
  rw [insS_is x hl, List.mem_append, List.mem_cons, List.mem_filter, List.mem_filter]
  constructor
  · rintro (h | h | h)
    · exact .inr h.1
    · exact .inl h
    · exact .inr h.1
  · rintro (h | h)
    · exact .inr (.inl h)
    · rcases Int.lt_trichotomy a x with h2 | h2 | h2
      · exact .inl ⟨h, by simpa using h2⟩
      · exact .inr (.inl h2)
      · exact .inr (.inr ⟨h, by simpa using h2⟩)
theorem setL_both (l : List Int) : ∀ k, risL (setL (l.take k)) ∧ ∀ a, a ∈ setL (l.take k) ↔ a ∈ l.take k
  | 0 => by simp [setL, risL]
  | k + 1 => by
    have ih := setL_both l k
    by_cases hk : k < l.length
    · rw [setL_take l k hk]
      refine ⟨insS_ris _ ih.1, fun a => ?_⟩
      rw [insS_mem _ _ ih.1, ih.2, List.take_succ_eq_append_getElem hk, List.mem_append, List.mem_singleton]
      exact or_comm
    · rw [List.take_of_length_le (by omega), ← List.take_of_length_le (show l.length ≤ k by omega)]
      exact ih
theorem setL_ris (l : List Int) : risL (setL l) := by
  have := (setL_both l l.length).1
  rwa [List.take_length] at this
theorem setL_mem (l : List Int) (a : Int) : a ∈ setL l ↔ a ∈ l := by
  have := (setL_both l l.length).2 a
  rwa [List.take_length] at this
theorem risL.nodup {l : List Int} (h : risL l) : l.Nodup := h.imp fun h e => by omega
/-- lists that rise and have the same are the same -/
theorem risL.eq {a b : List Int} (ha : risL a) (hb : risL b) (h : ∀ x, x ∈ a ↔ x ∈ b) : a = b := by
  have hp : a.Perm b := (List.perm_ext_iff_of_nodup ha.nodup hb.nodup).2 h
  exact hp.eq_of_pairwise (fun x y _ _ h1 h2 => by omega) ha hb
theorem setL_self {l : List Int} (h : risL l) : setL l = l := (setL_ris l).eq h fun x => setL_mem l x

/-! ### Order -/
/-- does no arrow lead to it from one that isn't told -/
def freeG (nodes : List Int) (arcs : List Arc16) (told : List Int) (n : Int) : Bool := arcs.all fun a => !(decide (a.dst = n) && inL nodes a.src && !inL told a.src)
theorem freeG_take (nodes : List Int) (arcs : List Arc16) (told : List Int) (n : Int) (k : Nat) (hk : k < arcs.length) : freeG nodes (arcs.take (k + 1)) told n = (freeG nodes (arcs.take k) told n && !(decide (arcs[k].dst = n) && inL nodes arcs[k].src && !inL told arcs[k].src)) := by
  unfold freeG
  rw [List.take_succ_eq_append_getElem hk, List.all_append]
  simp
theorem freeG_no {nodes : List Int} {arcs : List Arc16} {told : List Int} {n : Int} (k : Nat) (hk : k < arcs.length) (h : (decide (arcs[k].dst = n) && inL nodes arcs[k].src && !inL told arcs[k].src) = true) : freeG nodes arcs told n = false := by
  unfold freeG
  rw [List.all_eq_false]
  exact ⟨arcs[k], List.getElem_mem hk, by rw [h]; simp⟩
/-- can it be told next -/
def nextB (nodes : List Int) (arcs : List Arc16) (told : List Int) (n : Int) : Bool := !inL told n && freeG nodes arcs told n
/-- one behind the other, the first that can be -/
def ordG (nodes : List Int) (arcs : List Arc16) : Nat → List Int → List Int
  | 0, told => told
  | f + 1, told => match nodes.find? (nextB nodes arcs told) with
    | none => told
    | some n => ordG nodes arcs f (told ++ [n])
def ordL (ids : List Int) (arcs : List Arc16) : List Int := ordG (setL ids) arcs (setL ids).length []
def leftL (ids : List Int) (arcs : List Arc16) : List Int := (setL ids).filter fun n => !inL (ordL ids arcs) n
/-- told so far: of the nodes, each once -/
structure ToldI (nodes told : List Int) : Prop where
  sub : ∀ n ∈ told, n ∈ nodes
  nodup : told.Nodup
theorem len_of_sub : ∀ (a b : List Int), a.Nodup → (∀ x ∈ a, x ∈ b) → a.length ≤ b.length
  | [], _, _, _ => Nat.zero_le _
  | x :: t, b, hn, hs => by
    have h1 := List.nodup_cons.1 hn
    have hx := hs x List.mem_cons_self
    have h2 := len_of_sub t (b.erase x) h1.2 fun y hy => (List.mem_erase_of_ne (show y ≠ x from fun e => by subst e; exact h1.1 hy)).2 (hs y (List.mem_cons_of_mem _ hy))
    rw [List.length_erase_of_mem hx] at h2
    have := List.length_pos_of_mem hx
    rw [List.length_cons]
    omega
theorem ToldI.len {nodes told : List Int} (h : ToldI nodes told) : told.length ≤ nodes.length := len_of_sub _ _ h.nodup h.sub
theorem ToldI.next {nodes told : List Int} {arcs : List Arc16} {n : Int} (h : ToldI nodes told) (hn : n ∈ nodes) (hb : nextB nodes arcs told n = true) : ToldI nodes (told ++ [n]) := by
  unfold nextB inL at hb
  rw [Bool.and_eq_true] at hb
  have hnt : n ∉ told := by simpa using hb.1
  refine ⟨fun x hx => ?_, ?_⟩
  · rcases List.mem_append.1 hx with hx | hx
    · exact h.sub x hx
    · rw [List.mem_singleton.1 hx]; exact hn
  · exact List.nodup_append.2 ⟨h.nodup, by simp, fun a ha b hb e => by rw [List.mem_singleton.1 hb] at e; subst e; exact hnt ha⟩
theorem ToldI.lt {nodes told : List Int} {arcs : List Arc16} {n : Int} (h : ToldI nodes told) (hn : n ∈ nodes) (hb : nextB nodes arcs told n = true) : told.length < nodes.length := by
  have := (h.next hn hb).len
  rw [List.length_append] at this
  simp at this
  omega
theorem ToldI.nil (nodes : List Int) : ToldI nodes [] := ⟨fun _ h => (by cases h), List.nodup_nil⟩
/-- enough steps -/
theorem ordG_step {nodes told : List Int} {arcs : List Arc16} {n : Int} (i : Nat) (hi : i < nodes.length) (hn : nodes[i] = n) (hpre : ∀ j (h : j < i), nextB nodes arcs told (nodes[j]'(by omega)) = false) (hb : nextB nodes arcs told n = true) (f : Nat) :
    ordG nodes arcs (f + 1) told = ordG nodes arcs f (told ++ [n]) := by
  have : nodes.find? (nextB nodes arcs told) = some n := by
    rw [List.find?_eq_some_iff_getElem]
    exact ⟨hb, i, hi, hn, fun j hj => by rw [hpre j hj]; rfl⟩
  conv => lhs; unfold ordG
  rw [this]
theorem ordG_end {nodes told : List Int} {arcs : List Arc16} (hpre : ∀ n ∈ nodes, nextB nodes arcs told n = false) (f : Nat) : ordG nodes arcs f told = told := by
  cases f with
  | zero => rfl
  | succ f =>
    have : nodes.find? (nextB nodes arcs told) = none := by
      rw [List.find?_eq_none]
      intro n hn h
      rw [hpre n hn] at h
      cases h
    unfold ordG
    rw [this]
end Go.Proofs.YtjmgokjljmmmgaaGreat
/- Lists of numbers in memory. -/
namespace Go.Proofs.YtjmgokjljmmmgaaGreat
open Go.RowKit

/-- A slice that reads as these numbers. -/
def IntsAt (w : World) (v : Value) (l : List Int) : Prop :=
  ∃ a cap, v = .slice a l.length cap ∧ l.length ≤ cap ∧ (0 < l.length → ∃ g o, a = some ⟨g, o, none⟩ ∧ g < w.heap.size ∧ ∀ j x, l[j]? = some x → w.cell? ⟨g, o + j, none⟩ = some (.int .i64 x))

theorem IntsAt.nil (w : World) : IntsAt w (.slice none 0 0) [] := ⟨none, 0, rfl, Nat.le_refl _, fun h => absurd h (by simp)⟩

theorem IntsAt.below {w w' : World} {v : Value} {l : List Int} (h : IntsAt w v l) (hb : Below w.heap.size w w') : IntsAt w' v l := by
  obtain ⟨a, cap, e, hc, h⟩ := h
  refine ⟨a, cap, e, hc, fun h0 => ?_⟩
  obtain ⟨g, o, e1, hg, hx⟩ := h h0
  exact ⟨g, o, e1, Nat.lt_of_lt_of_le hg hb.size, fun j x hj => (hb.cell (p := ⟨g, o + j, none⟩) hg).trans (hx j x hj)⟩

theorem IntsAt.lit (w : World) (l : List Int) (t : TypeId) : IntsAt (w.alloc (.cells (l.map (Value.int .i64)).toArray t)) (.slice (some ⟨w.heap.size, 0, none⟩) l.length l.length) l := by
  refine ⟨_, _, rfl, Nat.le_refl _, fun _ => ⟨w.heap.size, 0, rfl, by simp, fun j x hj => ?_⟩⟩
  rw [Nat.zero_add, World.cell?_alloc_at _ _ _ _ rfl]
  simp [hj]

theorem cells_int : Tryz.prog.cellsOf 3 = 1 := by kernel_rfl

set_option maxRecDepth 100000 in
theorem open_ints {H : Type} {enc : TypeId × Value → H} {w : World} {base : Nat} {v : Value} {d : DataW H} {p : List MemPlace} (hok : Value.okWide Tryz.prog w .any base 22 v) (h : DataW.Trod enc Tryz.prog w 0 (fun _ => true) true 22 v d p) :
    ∃ l, IntsAt w v l ∧ l.length ≤ 9223372036854775807 ∧ ∀ x ∈ l, -9223372036854775808 ≤ x ∧ x ≤ 9223372036854775807 := by
  obtain ⟨a, len, cap, rfl⟩ := Go.WideShapes.okWide_slice Tryz.underlying22 hok
  obtain ⟨fuel, hf⟩ := h
  rcases Go.ChangeShapes.open_ints Tryz.underlying22 Tryz.underlying3 cells_int hf with ⟨hcs, _⟩ | ⟨x, l, c, zs, hcs, _, hl, hm, hz, _, hcell, hws⟩
  · simp [Value.cells] at hcs
    obtain ⟨rfl, rfl, rfl⟩ := hcs
    exact ⟨[], IntsAt.nil _, by simp, by simp⟩
  · simp [Value.cells] at hcs
    obtain ⟨rfl, rfl, rfl⟩ := hcs
    have hz' : zs.length = cap := by simpa using hz
    have hlen : (zs.take len).length = len := by rw [List.length_take]; omega
    refine ⟨zs.take len, ⟨some x, cap, by rw [hlen], by omega, fun h0 => ?_⟩, ?_, fun y hy => ?_⟩
    · rw [hlen] at h0
      have h1 := hcell 0 (by omega)
      obtain ⟨b, off, spot⟩ := x
      have hs : spot = none := by simpa [Addr.add] using World.cell?_spot h1
      subst hs
      refine ⟨b, off, rfl, ?_, ?_⟩
      · rcases Nat.lt_or_ge b w.heap.size with h | h
        · exact h
        · simp [World.cell?, Addr.add, Array.getElem?_eq_none h] at h1
      · intro j x hj
        have hjl : j < len := by have := (List.getElem?_eq_some_iff.1 hj).1; omega
        have h2 := hcell j (by omega)
        rw [List.getElem?_take_of_lt hjl] at hj
        rw [List.getD_eq_getElem?_getD, hj] at h2
        have ha : (⟨b, off, none⟩ : Addr).add j = ⟨b, off + j, none⟩ := by rcases j with _ | j <;> simp [Addr.add]
        rw [ha] at h2
        exact h2
    · rw [hlen]
      unfold maxLen at hm
      omega
    · have := hws y (List.mem_of_mem_take hy)
      simp [Lit.wf] at this
      exact this
end Go.Proofs.YtjmgokjljmmmgaaGreat
/- A region that draws its order, whose callees make memory of their own: one walk of the text's order serves every order.
   Head: operations that only read, and calls whose contract ends in 'Below'. Then new blocks. Then a tail in a forced order (stores). -/
namespace Go.Proofs.YtjmgokjljmmmgaaGreat
open Go.RowKit

/-! ### A call hands back one value only -/

/-- A caller that can do nothing once it is back. -/
def deadFrame : Frame := { fn := 0, tmps := #[], todo := [.code (.goto 0)], defers := [], mode := .run, kind := .normal }

theorem dead_step (P : Program) (w : World) : ∃ o w', step P (lone deadFrame [] w) = .ended o w' := by
  have h : ∃ o w', (stepG P true { frame := deadFrame, callers := [], status := .running, dying := none } w).bare = .ended o w' := by
    simp [stepG, stepG.exec, deadFrame, gotoIn]
  obtain ⟨o, w', h⟩ := h
  exact ⟨o, w', step_lone_ended h⟩

theorem dead_runN {P : Program} {w : World} {n : Nat} {m : Machine} (h : runN P (n + 1) (lone deadFrame [] w) = .next m) : False := by
  obtain ⟨o, w', hs⟩ := dead_step P w
  simp [runN, hs] at h

theorem leaving_alone {P : Program} {fr fr' : Frame} {w w' : World} {v : Value} {d : Nat} (hl : fr.leaving P w (.returned v))
    (h : runN P d (lone fr [deadFrame] w) = .next (lone fr' [deadFrame] w')) : fr = fr' ∧ w = w' := by
  have hs := step_leave_returned (c := deadFrame) (cs := []) hl
  match d with
  | 0 =>
    simp only [runN, Stepped.next.injEq] at h
    simp only [lone, Machine.mk.injEq] at h
    obtain ⟨h1, h2, _⟩ := h
    simp at h2
    exact ⟨h2, h1⟩
  | 1 =>
    simp only [runN, hs, Stepped.next.injEq] at h
    simp [lone] at h
  | d + 2 =>
    rw [runN, hs] at h
    exact (dead_runN h).elim

theorem Calls.value_unique {P : Program} {f : FuncId} {args : Array Value} {w : World} {v v' : Value} {A B : World → Prop}
    (h : Calls P f args w fun e w' => e = .returned v ∧ A w') (h' : Calls P f args w fun e w' => e = .returned v' ∧ B w') : v = v' := by
  obtain ⟨e, w1, fr, ⟨rfl, _⟩, hc, _, hl⟩ := h [deadFrame]
  obtain ⟨e', w1', fr', ⟨rfl, _⟩, hc', _, hl'⟩ := h' [deadFrame]
  obtain ⟨n, hn⟩ := hc
  obtain ⟨n', hn'⟩ := hc'
  have key : ∀ {fr fr' : Frame} {w1 w1' : World} {v v' : Value}, fr.leaving P w1 (.returned v) → fr'.leaving P w1' (.returned v') → fr = fr' ∧ w1 = w1' → v = v' := by
    rintro fr fr' w1 w1' v v' ⟨_, _, _, fn, hf, hr⟩ ⟨_, _, _, fn', hf', hr'⟩ ⟨rfl, rfl⟩
    rw [hf] at hf'
    cases hf'
    rw [hr] at hr'
    cases hr'
    rfl
  rcases Nat.le_total n n' with hle | hle
  · obtain ⟨d, rfl⟩ := Nat.exists_eq_add_of_le hle
    rw [runN_add, hn] at hn'
    exact key hl hl' (leaving_alone hl hn')
  · obtain ⟨d, rfl⟩ := Nat.exists_eq_add_of_le hle
    rw [runN_add, hn'] at hn
    exact (key hl' hl (leaving_alone hl' hn)).symm

/-! ### The worlds that come of a world by new blocks -/

structure In (W : World) where
  w : World
  h : Below W.heap.size W w

theorem In.cell {W : World} (n : In W) {a : Addr} {v : Value} (hc : W.cell? a = some v) : n.w.cell? a = some v := by
  rw [n.h.cell (World.block_lt_of_cell? W a hc)]; exact hc
def In.self (W : World) : In W := ⟨W, Below.refl _ _⟩
instance In.some (W : World) : Nonempty (In W) := ⟨In.self W⟩
def In.within {W : World} {m : In W} (n : In m.w) : In W := ⟨n.w, m.h.trans (n.h.mono m.h.size)⟩
/-- the class of the quiet walk -/
def cls (W : World) : World → Prop := fun w' => ∃ n : In W, w' = n.w

theorem In.call {P : Program} {f : FuncId} {args : Array Value} {W : World} {n : In W} {v : Value}
    (h : Calls P f args n.w fun e w' => e = .returned v ∧ Below n.w.heap.size n.w w') : Calls P f args n.w fun e w'' => e = .returned v ∧ ∃ m : In W, w'' = m.w :=
  h.mono fun _ w' ⟨he, hb⟩ => ⟨he, ⟨w', n.h.trans (hb.mono n.h.size)⟩, rfl⟩
theorem In.call_same {P : Program} {f : FuncId} {args : Array Value} {W : World} {n : In W} {v : Value}
    (h : Calls P f args n.w fun e w' => e = .returned v ∧ n.w = w') : Calls P f args n.w fun e w'' => e = .returned v ∧ ∃ m : In W, w'' = m.w :=
  h.mono fun _ _ ⟨he, hw⟩ => ⟨he, n, hw.symm⟩

section
variable {P : Program} {ops : Array Oper} {md : Region.Mode} {W : World}

def calmAt (P : Program) (o : Oper) (a : Act) (W : World) (v : Value) : Prop := ∀ n : In W, Oper.quietUpon P (cls n.w) n.w v ((execOp a.eval o).run P n.w)

theorem upon_unique {C C' : World → Prop} {w : World} {v v' : Value} {r : Result Next} (h : Oper.quietUpon P C w v r) (h' : Oper.quietUpon P C' w v' r) : v = v' := by
  cases r with
  | ok n w1 =>
    cases n <;> simp only [Oper.quietUpon] at h h'
    case value u => exact h.2.symm.trans h'.2
    case skip => exact h.2.trans h'.2.symm
    case enter f args => exact Calls.value_unique h.2 h'.2
  | halt x w1 => simp only [Oper.quietUpon] at h

/-- new blocks that the region makes -/
def Gh := Nat → Option Obj
def Gh.none : Gh := fun _ => Option.none
def Gh.set (G : Gh) (b : Nat) (o : Obj) : Gh := fun k => if k = b then some o else G k
def Gh.few (G : Gh) : Prop := ∃ N, ∀ b, N ≤ b → G b = Option.none
theorem Gh.few_none : Gh.none.few := ⟨0, fun _ _ => rfl⟩
theorem Gh.few_set {G : Gh} (h : G.few) (b : Nat) (o : Obj) : (G.set b o).few := by
  obtain ⟨N, hN⟩ := h
  exact ⟨max N (b + 1), fun k hk => by unfold Gh.set; rw [if_neg (by omega)]; exact hN k (by omega)⟩
theorem Gh.set_ne {G : Gh} {b b' : Nat} (o : Obj) (h : b' ≠ b) : (G.set b o) b' = G b' := by unfold Gh.set; rw [if_neg h]
theorem Gh.set_self (G : Gh) (b : Nat) (o : Obj) : (G.set b o) b = some o := by unfold Gh.set; rw [if_pos rfl]
theorem Gh.set_comm {G : Gh} {b b' : Nat} (o o' : Obj) (h : b ≠ b') : (G.set b o).set b' o' = (G.set b' o').set b o := by
  funext k
  unfold Gh.set
  by_cases h1 : k = b'
  · rw [if_pos h1, if_neg (by omega), if_pos h1]
  · rw [if_neg h1]
    by_cases h2 : k = b
    · rw [if_pos h2, if_pos h2]
    · rw [if_neg h2, if_neg h2, if_neg h1]

structure Held (W : World) (G : Gh) (w : World) : Prop where
  below : Below W.heap.size W w
  own : ∀ k o, G k = some o → w.heap[k]? = some o

/-- an operation that makes one new block -/
def newsAt (P : Program) (o : Oper) (a : Act) (W : World) (s : Obj × (Nat → Value)) : Prop :=
  ∀ n : In W, (execOp a.eval o).run P n.w = .ok (.value (s.2 n.w.heap.size)) (n.w.alloc s.1)

/-- which operations make a block: those from m on -/
def newsOf (m : Nat) (ns : List (Obj × (Nat → Value))) (j : Nat) : Option (Obj × (Nat → Value)) := if j < m then Option.none else ns[j - m]?

def cOp (P : Program) (ops : Array Oper) (W : World) (N : Nat → Option (Obj × (Nat → Value))) (j : Nat) (K : Act → Gh → Prop) (a : Act) (G : Gh) : Prop :=
  match ops[j]? with
  | Option.none => K a G
  | some o =>
    match N j with
    | Option.none => if Region.wanted o (yielded ops a.tmps) then ∃ v, calmAt P o a W v ∧ K (a.put o.dst v) G else K (a.put o.dst undef) G
    | some s => Region.wanted o (yielded ops a.tmps) = true ∧ newsAt P o a W s ∧ ∀ b, W.heap.size ≤ b → G b = Option.none → K (a.put o.dst (s.2 b)) (G.set b s.1)

variable {N : Nat → Option (Obj × (Nat → Value))}

theorem cOp_mono {j : Nat} {K K' : Act → Gh → Prop} {a : Act} {G : Gh} (h : ∀ a G, K a G → K' a G) (hh : cOp P ops W N j K a G) : cOp P ops W N j K' a G := by
  unfold cOp at *
  cases ho : ops[j]? with
  | none => simp only [ho] at hh; exact h _ _ hh
  | some o =>
    simp only [ho] at hh ⊢
    cases hn : N j with
    | none =>
      simp only [hn] at hh ⊢
      split
      · rename_i hw; simp only [hw, if_true] at hh; exact hh.imp fun v hv => ⟨hv.1, h _ _ hv.2⟩
      · rename_i hw; simp only [hw] at hh; exact h _ _ hh
    | some s =>
      simp only [hn] at hh ⊢
      exact ⟨hh.1, hh.2.1, fun b h1 h2 => h _ _ (hh.2.2 b h1 h2)⟩

/-- What it is for a run. -/
theorem wpOp_of_cOp {i : Nat} {a : Act} {G : Gh} {w : World} {K : Act → Gh → Prop} {K' : Act → World → Prop} {Q : Exit → Act → World → Prop} (hw : Held W G w)
    (h : ∀ a G w, Held W G w → K a G → K' a w) (hh : cOp P ops W N i K a G) : wpOp P ops Q i K' a w := by
  unfold cOp at hh
  unfold wpOp
  cases ho : ops[i]? with
  | none => simp only [ho] at hh; exact h _ _ _ hw hh
  | some o =>
    simp only [ho] at hh ⊢
    cases hn : N i with
    | none =>
      simp only [hn] at hh
      split
      · rename_i hwant
        simp only [hwant, if_true] at hh
        obtain ⟨v, hv, hK⟩ := hh
        refine .inl ?_
        have h3 := hv ⟨w, hw.below⟩
        unfold Oper.wp
        simp only at h3
        generalize (execOp a.eval o).run P w = r at *
        cases r with
        | ok n w' =>
          cases n <;> simp only [Oper.quietUpon] at h3 <;> simp only [Oper.upon]
          case value u =>
            obtain ⟨e1, e2⟩ := h3
            rw [e1, e2]
            exact h _ _ _ hw hK
          case skip =>
            obtain ⟨e1, e2⟩ := h3
            rw [e1, ← e2]
            exact h _ _ _ hw hK
          case enter f args =>
            obtain ⟨e1, hc⟩ := h3
            rw [e1]
            refine hc.mono fun e w'' ⟨he, n, hn⟩ => ?_
            subst he
            subst hn
            refine h _ _ _ ⟨hw.below.trans (n.h.mono hw.below.size), fun k o hk => ?_⟩ hK
            have h4 := hw.own k o hk
            rw [n.h.block k (by rcases Nat.lt_or_ge k w.heap.size with hlt | hge
                                · exact hlt
                                · rw [Array.getElem?_eq_none hge] at h4; cases h4)]
            exact h4
        | halt x w' => simp only [Oper.quietUpon] at h3
      · rename_i hwant
        simp only [hwant] at hh
        exact h _ _ _ hw hh
    | some s =>
      simp only [hn] at hh
      obtain ⟨hwant, hnew, hK⟩ := hh
      rw [if_pos hwant]
      refine .inl ?_
      unfold Oper.wp
      rw [hnew ⟨w, hw.below⟩]
      simp only [Oper.upon]
      have hfree : G w.heap.size = Option.none := by
        cases hG : G w.heap.size with
        | none => rfl
        | some o' => have := hw.own _ _ hG; rw [Array.getElem?_eq_none (Nat.le_refl _)] at this; cases this
      refine h _ _ _ ⟨hw.below.alloc hw.below.size _, fun k o hk => ?_⟩ (hK w.heap.size hw.below.size hfree)
      by_cases hkb : k = w.heap.size
      · subst hkb
        rw [Gh.set_self] at hk
        cases hk
        show (w.heap.push s.1)[w.heap.size]? = some s.1
        simp
      · rw [Gh.set_ne _ hkb] at hk
        have h4 := hw.own k o hk
        have hlt : k < w.heap.size := by
          rcases Nat.lt_or_ge k w.heap.size with hlt | hge
          · exact hlt
          · rw [Array.getElem?_eq_none hge] at h4; cases h4
        rw [Below.heap_alloc _ _ _ hlt]
        exact h4

/-- The head, in whatever order, till L. -/
def anyL (P : Program) (md : Region.Mode) (ops : Array Oper) (W : World) (N : Nat → Option (Obj × (Nat → Value))) (n : Nat) (L : Array Bool → Act → Gh → Prop) : Nat → Array Bool → Act → Gh → Prop
  | 0, listed, a, G => L listed a G
  | f + 1, listed, a, G =>
    Region.ready md ops listed ≠ [] ∧ ∀ i ∈ Region.ready md ops listed, i < n ∧ cOp P ops W N i (anyL P md ops W N n L f (listed.setIfInBounds i true)) a G

theorem wpAny_of_anyL {n g : Nat} {L : Array Bool → Act → Gh → Prop} {Q : Exit → Act → World → Prop} (hL : ∀ listed a G w, Held W G w → L listed a G → wpAny P md ops Q g listed a w) :
    ∀ (f : Nat) (listed : Array Bool) (a : Act) (G : Gh) (w : World), Held W G w → anyL P md ops W N n L f listed a G → wpAny P md ops Q (f + g) listed a w
  | 0, listed, a, G, w, hw, h => by rw [Nat.zero_add]; exact hL _ _ _ _ hw h
  | f + 1, listed, a, G, w, hw, h => by
    rw [show f + 1 + g = (f + g) + 1 by omega]
    exact ⟨fun h0 => absurd h0 h.1, fun i hi => wpOp_of_cOp hw (fun a' G' w' hw' h' => wpAny_of_anyL hL f _ a' G' w' hw' h') (h.2 i hi).2⟩

theorem calmAt_same {o : Oper} {a a' : Act} {v : Value} (he : execOp a'.eval o = execOp a.eval o) (h : calmAt P o a W v) : calmAt P o a' W v := by
  unfold calmAt at *
  rw [he]
  exact h
theorem newsAt_same {o : Oper} {a a' : Act} {s : Obj × (Nat → Value)} (he : execOp a'.eval o = execOp a.eval o) (h : newsAt P o a W s) : newsAt P o a' W s := by
  unfold newsAt at *
  rw [he]
  exact h

def CalmY (P : Program) (ops : Array Oper) (W : World) (o : Oper) (v : Value) (a : Act) : Prop :=
  (Region.wanted o (yielded ops a.tmps) = true ∧ calmAt P o a W v) ∨ (Region.wanted o (yielded ops a.tmps) = false ∧ v = undef)

theorem CalmY.put {oi oj : Oper} {v : Value} {a : Act} (h3 : ∀ d, oj.dst = some d → d ∉ oi.looksAt ops) (hsi : ∀ cs b, oi.op ≠ .select cs b) (hy : CalmY P ops W oi v a) (u : Value) : CalmY P ops W oi v (a.put oj.dst u) := by
  unfold CalmY at *
  rw [wanted_put oi a oj.dst u h3]
  exact hy.imp (fun h => ⟨h.1, calmAt_same (execOp_put oi hsi a oj.dst u h3) h.2⟩) id

theorem cOp_put_calm {j : Nat} {oi oj : Oper} {v : Value} (hj : ops[j]? = some oj) (hap : oi.apart ops oj = true)
    (hsi : ∀ cs b, oi.op ≠ .select cs b) (hsj : ∀ cs b, oj.op ≠ .select cs b) {K : Act → Gh → Prop} {a : Act} {G : Gh}
    (hy : CalmY P ops W oi v a) (h : cOp P ops W N j K (a.put oi.dst v) G) :
    cOp P ops W N j (fun a' G' => CalmY P ops W oi v a' ∧ K (a'.put oi.dst v) G') a G := by
  obtain ⟨h1, h2, h3⟩ := Oper.apart_spec hap
  unfold cOp at *
  simp only [hj] at *
  cases hn : N j with
  | none =>
    simp only [hn] at h ⊢
    rw [wanted_put oj a oi.dst v h1] at h
    split
    · rename_i hw
      simp only [hw, if_true] at h
      obtain ⟨u, hu, hK⟩ := h
      exact ⟨u, calmAt_same (execOp_put oj hsj a oi.dst v h1).symm hu, hy.put h3 hsi u, by rw [← Act.put_comm a v u h2]; exact hK⟩
    · rename_i hw
      simp only [hw] at h
      exact ⟨hy.put h3 hsi _, by rw [← Act.put_comm a v undef h2]; exact h⟩
  | some s =>
    simp only [hn] at h ⊢
    obtain ⟨hw, hs, hK⟩ := h
    exact ⟨by rw [← wanted_put oj a oi.dst v h1]; exact hw, newsAt_same (execOp_put oj hsj a oi.dst v h1).symm hs,
      fun b hb hG => ⟨hy.put h3 hsi _, by rw [← Act.put_comm a v (s.2 b) h2]; exact hK b hb hG⟩⟩

theorem CalmY.cOp {i : Nat} {o : Oper} {v : Value} {a : Act} {G : Gh} (hi : ops[i]? = some o) (hn : N i = Option.none) (hy : CalmY P ops W o v a) {K : Act → Gh → Prop} (h : K (a.put o.dst v) G) : cOp P ops W N i K a G := by
  unfold Go.Proofs.YtjmgokjljmmmgaaGreat.cOp
  simp only [hi, hn]
  rcases hy with ⟨hw, hv⟩ | ⟨hw, rfl⟩
  · simp only [hw, if_true]; exact ⟨v, hv, h⟩
  · simp only [hw, Bool.false_eq_true, if_false]; exact h

/-- nobody of the tail comes up while somebody of the head has not -/
def HeadFirst (md : Region.Mode) (ops : Array Oper) (n : Nat) : Prop := n = ops.size ∨ (Region.sinkB md ops n = true ∧ Region.chainB md ops n = true ∧ n < ops.size)

theorem HeadFirst.lt {n : Nat} (h : HeadFirst md ops n) {listed : Array Bool} (inv : HeadInv md ops n listed) {i j : Nat} (hin : i < n) (hun : listed.getD i true = false) (hj : j ∈ Region.ready md ops listed) : j < n := by
  rcases h with rfl | ⟨hs, hc, hn⟩
  · obtain ⟨_, oj, hoj, _⟩ := mem_ready.1 hj
    exact (Array.getElem?_eq_some_iff.1 hoj).1
  · rcases Nat.lt_or_ge j n with h | h
    · exact h
    · exact absurd hj (tail_waits hs hc hn inv _ i rfl hin hun j h)

theorem not_after {i j : Nat} {listed : Array Bool} {oj : Oper} (hun : listed.getD i true = false) (hall : ∀ e ∈ oj.after, Region.binds md e = true → listed.getD e.on false = true) (_h : i = i) (_hj : j = j) :
    ∀ e ∈ oj.after, Region.binds md e = true → e.on ≠ i := fun e he hb heq => by
  have h1 := hall e he hb
  rw [heq, getD_both hun] at h1
  cases h1

theorem anyL_first {n i : Nat} {oi : Oper} {v : Value} {L : Array Bool → Act → Gh → Prop} (hi : ops[i]? = some oi) (hN : N i = Option.none) (hsel : ∀ (j : Nat) (o : Oper) cs b, ops[j]? = some o → o.op ≠ .select cs b)
    (hh : HeadFirst md ops n) (hin : i < n) (hdone : ∀ listed a G, L listed a G → ∀ j ∈ Region.ready md ops listed, n ≤ j) :
    ∀ (f : Nat) (listed : Array Bool) (a : Act) (G : Gh), HeadInv md ops n listed →
      (∀ j oj, ops[j]? = some oj → j ≠ i → listed.getD j true = false → (∀ e ∈ oj.after, Region.binds md e = true → e.on ≠ i) → oi.apart ops oj = true) →
      i ∈ Region.ready md ops listed → CalmY P ops W oi v a →
      anyL P md ops W N n L f (listed.setIfInBounds i true) (a.put oi.dst v) G → anyL P md ops W N n L (f + 1) listed a G := by
  intro f
  induction f with
  | zero =>
    intro listed a G inv _ hr hy H
    have hun := (mem_ready.1 hr).1
    refine ⟨fun h => (by rw [h] at hr; cases hr), fun j hj => ?_⟩
    refine ⟨hh.lt inv hin hun hj, ?_⟩
    by_cases hji : j = i
    · subst hji; exact hy.cOp hi hN H
    · have := hdone _ _ _ H j (ready_mono hj hji)
      have := hh.lt inv hin hun hj
      omega
  | succ f ih =>
    intro listed a G inv hfree hr hy H
    have hun := (mem_ready.1 hr).1
    refine ⟨fun h => (by rw [h] at hr; cases hr), fun j hj => ?_⟩
    have hjn := hh.lt inv hin hun hj
    refine ⟨hjn, ?_⟩
    by_cases hji : j = i
    · subst hji; exact hy.cOp hi hN H
    · have h1 := (H.2 j (ready_mono hj hji)).2
      obtain ⟨hjun, oj, hoj, hall⟩ := mem_ready.1 hj
      have h2 := cOp_put_calm hoj (hfree j oj hoj hji hjun (not_after (j := j) hun hall rfl rfl)) (fun cs b => hsel i oi cs b hi) (fun cs b => hsel j oj cs b hoj) hy h1
      have hfree' : ∀ k ok, ops[k]? = some ok → k ≠ i → (listed.setIfInBounds j true).getD k true = false →
          (∀ e ∈ ok.after, Region.binds md e = true → e.on ≠ i) → oi.apart ops ok = true := fun k ok hk hki hun' hno => by
        refine hfree k ok hk hki ?_ hno
        by_cases hjk : j = k
        · subst hjk; exact hjun
        · rw [getD_set_ne true hjk] at hun'; exact hun'
      refine cOp_mono (fun a' G' h3 => ih (listed.setIfInBounds j true) a' G' (inv.set hj hjn) hfree' (ready_mono hr (Ne.symm hji)) h3.1 ?_) h2
      rw [Array.setIfInBounds_comm _ _ hji]
      exact h3.2

theorem cOp_put_news {j : Nat} {oi oj : Oper} {si sj : Obj × (Nat → Value)} (hj : ops[j]? = some oj) (hN : N j = some sj) (hap : oi.apart ops oj = true)
    (hsi : ∀ cs b, oi.op ≠ .select cs b) (hsj : ∀ cs b, oj.op ≠ .select cs b) {K : Act → Gh → Prop} {a : Act} {G : Gh} (hfew : G.few)
    (hwi : Region.wanted oi (yielded ops a.tmps) = true) (hy : newsAt P oi a W si) (h : ∀ b, W.heap.size ≤ b → G b = Option.none → cOp P ops W N j K (a.put oi.dst (si.2 b)) (G.set b si.1)) :
    cOp P ops W N j (fun a' G' => G'.few ∧ Region.wanted oi (yielded ops a'.tmps) = true ∧ newsAt P oi a' W si ∧ ∀ b, W.heap.size ≤ b → G' b = Option.none → K (a'.put oi.dst (si.2 b)) (G'.set b si.1)) a G := by
  obtain ⟨h1, h2, h3⟩ := Oper.apart_spec hap
  unfold cOp at *
  simp only [hj, hN] at *
  obtain ⟨M, hM⟩ := hfew
  have h0 := h (max M W.heap.size) (by omega) (hM _ (by omega))
  obtain ⟨hw, hs, _⟩ := h0
  refine ⟨by rw [← wanted_put oj a oi.dst _ h1]; exact hw, newsAt_same (execOp_put oj hsj a oi.dst _ h1).symm hs, fun b' hb' hG' => ⟨Gh.few_set ⟨M, hM⟩ _ _, ?_, ?_, fun b hb hG => ?_⟩⟩
  · rw [wanted_put oi a oj.dst _ h3]; exact hwi
  · exact newsAt_same (execOp_put oi hsi a oj.dst _ h3) hy
  · have hne : b ≠ b' := fun e => by subst e; rw [Gh.set_self] at hG; cases hG
    rw [Gh.set_ne _ hne] at hG
    have h5 := (h b hb hG).2.2 b' hb' (by rw [Gh.set_ne _ (Ne.symm hne)]; exact hG')
    rw [Act.put_comm a (si.2 b) (sj.2 b') h2, Gh.set_comm _ _ hne] at h5
    exact h5

theorem anyL_news {n i : Nat} {oi : Oper} {si : Obj × (Nat → Value)} {L : Array Bool → Act → Gh → Prop} (hi : ops[i]? = some oi) (hN : N i = some si) (hsel : ∀ (j : Nat) (o : Oper) cs b, ops[j]? = some o → o.op ≠ .select cs b)
    (hh : HeadFirst md ops n) (hin : i < n) (hdone : ∀ listed a G, L listed a G → ∀ j ∈ Region.ready md ops listed, n ≤ j) :
    ∀ (f : Nat) (listed : Array Bool) (a : Act) (G : Gh), HeadInv md ops n listed →
      (∀ j oj, ops[j]? = some oj → j ≠ i → listed.getD j true = false → (∀ e ∈ oj.after, Region.binds md e = true → e.on ≠ i) → oi.apart ops oj = true) →
      (∀ j, j < n → listed.getD j true = false → ∃ s, N j = some s) →
      i ∈ Region.ready md ops listed → G.few → Region.wanted oi (yielded ops a.tmps) = true → newsAt P oi a W si →
      (∀ b, W.heap.size ≤ b → G b = Option.none → anyL P md ops W N n L f (listed.setIfInBounds i true) (a.put oi.dst (si.2 b)) (G.set b si.1)) → anyL P md ops W N n L (f + 1) listed a G := by
  have direct : ∀ {K : Act → Gh → Prop} {a : Act} {G : Gh}, Region.wanted oi (yielded ops a.tmps) = true → newsAt P oi a W si → (∀ b, W.heap.size ≤ b → G b = Option.none → K (a.put oi.dst (si.2 b)) (G.set b si.1)) → cOp P ops W N i K a G := by
    intro K a G h1 h2 h3
    unfold cOp
    simp only [hi, hN]
    exact ⟨h1, h2, h3⟩
  intro f
  induction f with
  | zero =>
    intro listed a G inv _ _ hr hfew hwi hy H
    have hun := (mem_ready.1 hr).1
    refine ⟨fun h => (by rw [h] at hr; cases hr), fun j hj => ?_⟩
    refine ⟨hh.lt inv hin hun hj, ?_⟩
    by_cases hji : j = i
    · subst hji; exact direct hwi hy H
    · obtain ⟨M, hM⟩ := hfew
      have := hdone _ _ _ (H (max M W.heap.size) (by omega) (hM _ (by omega))) j (ready_mono hj hji)
      have := hh.lt inv hin hun hj
      omega
  | succ f ih =>
    intro listed a G inv hfree hnews hr hfew hwi hy H
    have hun := (mem_ready.1 hr).1
    refine ⟨fun h => (by rw [h] at hr; cases hr), fun j hj => ?_⟩
    have hjn := hh.lt inv hin hun hj
    refine ⟨hjn, ?_⟩
    by_cases hji : j = i
    · subst hji; exact direct hwi hy H
    · obtain ⟨hjun, oj, hoj, hall⟩ := mem_ready.1 hj
      obtain ⟨sj, hsj⟩ := hnews j hjn hjun
      have h2 := cOp_put_news hoj hsj (hfree j oj hoj hji hjun (not_after (j := j) hun hall rfl rfl)) (fun cs b => hsel i oi cs b hi) (fun cs b => hsel j oj cs b hoj) hfew hwi hy
        (fun b hb hG => ((H b hb hG).2 j (ready_mono hj hji)).2)
      have hset : ∀ k, (listed.setIfInBounds j true).getD k true = false → listed.getD k true = false := fun k hk => by
        by_cases hjk : j = k
        · subst hjk; exact hjun
        · rw [getD_set_ne true hjk] at hk; exact hk
      refine cOp_mono (fun a' G' h3 => ih (listed.setIfInBounds j true) a' G' (inv.set hj hjn) (fun k ok hk hki hun' hno => hfree k ok hk hki (hset k hun') hno)
        (fun k hk hun' => hnews k hk (hset k hun')) (ready_mono hr (Ne.symm hji)) h3.1 h3.2.1 h3.2.2.1 (fun b hb hG => ?_)) h2
      rw [Array.setIfInBounds_comm _ _ hji]
      exact h3.2.2.2 b hb hG

/-! ### The text's order -/

def wpCalm (P : Program) (ops : Array Oper) (W : World) (Q : Act → Prop) : List Oper → Act → Prop
  | [], a => Q a
  | o :: rest, a => if Region.wanted o (yielded ops a.tmps) then ∃ v, calmAt P o a W v ∧ wpCalm P ops W Q rest (a.put o.dst v) else wpCalm P ops W Q rest (a.put o.dst undef)

/-- FROM THE KIT's QUIET WALK, in the worlds that come of any world that comes of W. -/
theorem wpCalm_of_quiet {Q : Act → Prop} : ∀ (l : List Oper) (a : Act), (∀ n : In W, wpQuiet P ops (cls n.w) Q l a) → wpCalm P ops W Q l a
  | [], a, h => h (In.self W)
  | o :: rest, a, h => by
    unfold wpCalm
    unfold wpQuiet at h
    split
    · rename_i hw
      simp only [hw, if_true] at h
      obtain ⟨v, hv, _⟩ := h (In.self W)
      have key : ∀ n : In W, Oper.quietUpon P (cls n.w) n.w v ((execOp a.eval o).run P n.w) ∧ wpQuiet P ops (cls n.w) Q rest (a.put o.dst v) := by
        intro n
        obtain ⟨v', hv', hrest⟩ := h n
        have e : v = v' := upon_unique (hv n.w ⟨n, rfl⟩) (hv' n.w ⟨In.self n.w, rfl⟩)
        subst e
        exact ⟨hv' n.w ⟨In.self n.w, rfl⟩, hrest⟩
      exact ⟨v, fun n => (key n).1, wpCalm_of_quiet rest _ fun n => (key n).2⟩
    · rename_i hw
      simp only [hw] at h
      exact wpCalm_of_quiet rest _ h

def wpNews (P : Program) (ops : Array Oper) (W : World) (Q : Act → Gh → Prop) : List Oper → List (Obj × (Nat → Value)) → Act → Gh → Prop
  | [], [], a, G => Q a G
  | o :: os, s :: ss, a, G => Region.wanted o (yielded ops a.tmps) = true ∧ newsAt P o a W s ∧ ∀ b, W.heap.size ≤ b → G b = Option.none → wpNews P ops W Q os ss (a.put o.dst (s.2 b)) (G.set b s.1)
  | _, _, _, _ => False

def calmB (md : Region.Mode) (ops : Array Oper) (n : Nat) : Bool :=
  Region.noSelect ops && (n == ops.size || (decide (n < ops.size) && Region.sinkB md ops n && Region.chainB md ops n)) && Region.lexHead md ops (ops.size - n) n 0 (Array.replicate ops.size false)

theorem anyL_of_news {n m g : Nat} {Lq : Act → Gh → Prop} {ns : List (Obj × (Nat → Value))} (hsel : Region.noSelect ops = true) (hh : HeadFirst md ops n) (hn : n = m + ns.length) (hle : n ≤ ops.size) :
    ∀ (l : List Oper) (ss : List (Obj × (Nat → Value))) (k : Nat) (listed : Array Bool) (a : Act) (G : Gh), (∀ j, j < l.length → l[j]? = ops[k + j]?) → (∀ j, j < ss.length → ss[j]? = ns[k - m + j]?) → m ≤ k → k + l.length = n →
    (∀ j, j < k → listed.getD j true = true) → HeadInv md ops n listed → G.few →
    Region.lexHead md ops g l.length k listed = true → wpNews P ops W Lq l ss a G →
    anyL P md ops W (newsOf m ns) n (fun listed' a' G' => Region.seqB md ops g n listed' = true ∧ Lq a' G') l.length listed a G
  | [], [], k, listed, a, G, hl, hs, hmk, hk, hdone, inv, hfew, hB, h => by
    have : k = n := by simpa using hk
    subst this
    exact ⟨by simpa [Region.lexHead] using hB, h⟩
  | [], _ :: _, _, _, _, _, _, _, _, _, _, _, _, _, h => by unfold wpNews at h; exact h.elim
  | _ :: _, [], _, _, _, _, _, _, _, _, _, _, _, _, h => by unfold wpNews at h; exact h.elim
  | o :: l, s :: ss, k, listed, a, G, hl, hs, hmk, hk, hdone, inv, hfew, hB, h => by
    have h0 : ops[k]? = some o := by simpa using (hl 0 (by simp)).symm
    have hkn : k < n := by simp only [List.length_cons] at hk; omega
    have hNk : newsOf m ns k = some s := by
      unfold newsOf
      rw [if_neg (by omega)]
      simpa using (hs 0 (by simp)).symm
    simp only [List.length_cons, Region.lexHead, Bool.and_eq_true] at hB
    obtain ⟨⟨hr, hf⟩, hB'⟩ := hB
    have hr' : k ∈ Region.ready md ops listed := by simpa using hr
    unfold wpNews at h
    obtain ⟨hw, hnew, hrest⟩ := h
    refine anyL_news h0 hNk (Region.noSelect_spec hsel) hh hkn (fun listed' a' G' hL => seqB_ready hL.1) l.length listed a G inv (Region.free_spec h0 hf) ?_ hr' hfew hw hnew (fun b hb hG => ?_)
    · intro j hj hun
      have : k ≤ j := by
        rcases Nat.lt_or_ge j k with h | h
        · rw [hdone j h] at hun; cases hun
        · exact h
      have hlt : j - m < ns.length := by omega
      exact ⟨ns[j - m], by unfold newsOf; rw [if_neg (by omega)]; exact List.getElem?_eq_getElem hlt⟩
    · refine anyL_of_news hsel hh hn hle l ss (k + 1) _ _ _ (fun j hj => by have := hl (j + 1) (by simp; omega); simpa [Nat.add_assoc, Nat.add_comm 1 j] using this)
        (fun j hj => by have := hs (j + 1) (by simp; omega); simp only [List.getElem?_cons_succ] at this; rw [this]; congr 1; omega) (by omega) (by simp only [List.length_cons] at hk; omega) ?_ (inv.set hr' hkn) (Gh.few_set hfew _ _) hB' (hrest b hb hG)
      intro j hj
      by_cases hjk : k = j
      · subst hjk
        have : k < listed.size := by rw [inv.size]; omega
        simp [this]
      · rw [getD_set_ne true hjk]; exact hdone j (by omega)

theorem anyL_of_calm {n m g : Nat} {Lq : Act → Gh → Prop} {ns : List (Obj × (Nat → Value))} (hsel : Region.noSelect ops = true) (hh : HeadFirst md ops n) (hn : n = m + ns.length) (hle : n ≤ ops.size) (l2 : List Oper) (hl2 : l2.length = ns.length) :
    ∀ (l : List Oper) (k : Nat) (listed : Array Bool) (a : Act), (∀ j, j < (l ++ l2).length → (l ++ l2)[j]? = ops[k + j]?) → k + l.length = m →
    (∀ j, j < k → listed.getD j true = true) → HeadInv md ops n listed →
    Region.lexHead md ops g (l ++ l2).length k listed = true → wpCalm P ops W (fun a' => wpNews P ops W Lq l2 ns a' Gh.none) l a →
    anyL P md ops W (newsOf m ns) n (fun listed' a' G' => Region.seqB md ops g n listed' = true ∧ Lq a' G') (l ++ l2).length listed a Gh.none
  | [], k, listed, a, hl, hk, hdone, inv, hB, h => by
    have : k = m := by simpa using hk
    subst this
    simp only [List.nil_append] at hl hB ⊢
    unfold wpCalm at h
    exact anyL_of_news hsel hh hn hle l2 ns k listed a Gh.none hl (fun j _ => by simp) (Nat.le_refl _) (by omega) hdone inv Gh.few_none hB h
  | o :: l, k, listed, a, hl, hk, hdone, inv, hB, h => by
    have h0 : ops[k]? = some o := by simpa using (hl 0 (by simp)).symm
    have hkm : k < m := by simp only [List.length_cons] at hk; omega
    have hNk : newsOf m ns k = Option.none := by unfold newsOf; rw [if_pos hkm]
    simp only [List.cons_append, List.length_cons, Region.lexHead, Bool.and_eq_true] at hB ⊢
    obtain ⟨⟨hr, hf⟩, hB'⟩ := hB
    have hr' : k ∈ Region.ready md ops listed := by simpa using hr
    unfold wpCalm at h
    obtain ⟨v, hy, hK⟩ : ∃ v, CalmY P ops W o v a ∧ wpCalm P ops W (fun a' => wpNews P ops W Lq l2 ns a' Gh.none) l (a.put o.dst v) := by
      by_cases hw : Region.wanted o (yielded ops a.tmps) = true
      · simp only [hw, if_true] at h
        obtain ⟨v, hv, hK⟩ := h
        exact ⟨v, .inl ⟨hw, hv⟩, hK⟩
      · simp only [hw] at h
        exact ⟨undef, .inr ⟨by simpa using hw, rfl⟩, h⟩
    refine anyL_first h0 hNk (Region.noSelect_spec hsel) hh (by omega) (fun listed' a' G' hL => seqB_ready hL.1) (l ++ l2).length listed a Gh.none inv (Region.free_spec h0 hf) hr' hy ?_
    refine anyL_of_calm hsel hh hn hle l2 hl2 l (k + 1) _ _ (fun j hj => by have := hl (j + 1) (by simp at hj ⊢; omega); simpa [Nat.add_assoc, Nat.add_comm 1 j] using this) (by simp only [List.length_cons] at hk; omega) ?_ (inv.set hr' (by omega)) hB' hK
    intro j hj
    by_cases hjk : k = j
    · subst hjk
      have : k < listed.size := by rw [inv.size]; omega
      simp [this]
    · rw [getD_set_ne true hjk]; exact hdone j (by omega)

/-- THE LAW. m operations that read or call, then new blocks 'ns', then the tail (from n on), in its own order. -/
theorem wp_region_calm {id : Nat} {Q : Exit → Act → World → Prop} {a : Act} {l : List Oper} (m n : Nat) (ns : List (Obj × (Nat → Value))) (hm : P.follows .mixedOrders = true)
    (hn : n = m + ns.length) (hle : n ≤ l.length) (hB : calmB .any l.toArray n = true)
    (h : ∀ M : In W, wpQuiet P l.toArray (cls M.w) (fun a' => wpNews P l.toArray W (fun a'' G => ∀ w', Held W G w' → wpList P l.toArray Q (l.drop n) a'' w') ((l.drop m).take ns.length) ns a' Gh.none) (l.take m) a) :
    (Code.region id l.toArray true).wp P Q a W := by
  unfold calmB at hB
  simp only [Bool.and_eq_true, Bool.or_eq_true, beq_iff_eq, decide_eq_true_eq] at hB
  obtain ⟨⟨hsel, hh0⟩, hlex⟩ := hB
  have hh : HeadFirst .any l.toArray n := hh0.imp (fun x => x) fun x => ⟨x.1.2, x.2, x.1.1⟩
  have hsz : l.toArray.size = l.length := by simp
  have hl12 : l.take m ++ (l.drop m).take ns.length = l.take n := by rw [hn, List.take_add]
  have htl : (l.take m ++ (l.drop m).take ns.length).length = n := by rw [hl12]; simp; omega
  have inv0 : HeadInv .any l.toArray n (Array.replicate l.toArray.size false) :=
    ⟨by simp, fun j oj _ hl => (by rw [getD_replicate_false] at hl; cases hl), fun t _ ht => getD_in (by simpa using ht) (getD_replicate_false _ _)⟩
  have H := anyL_of_calm (P := P) (W := W) (md := .any) (g := l.toArray.size - n) hsel hh hn (by simpa using hle) ((l.drop m).take ns.length) (by simp; omega) (l.take m) 0 _ a
    (fun j hj => by
      rw [htl] at hj
      rw [hl12]
      simp [hj]) (by simp; omega) (fun j hj => by omega) inv0 (by rw [htl]; exact hlex) (wpCalm_of_quiet _ _ h)
  refine wp_region_any hm ?_
  have h6 := wpAny_of_anyL (Q := Q) (g := l.toArray.size - n) (fun listed a' G w' hw' hL => by
    have hdl : (l.drop n).length = l.toArray.size - n := by simp
    have := wpAny_of_seq (P := P) (md := .any) (Q' := Q) (l.drop n) n listed a' w' (fun j => by simp [List.getElem?_drop]) (by rw [hdl]; exact hL.1) (hL.2 w' hw')
    rwa [hdl] at this) _ _ _ _ W.drew ⟨(Below.refl _ _).drew, fun k o hk => by cases hk⟩ H
  rw [htl, show n + (l.toArray.size - n) = l.toArray.size by omega] at h6
  exact h6

/-- Nothing but reads and calls. -/
theorem wp_region_calm0 {id : Nat} {Q : Exit → Act → World → Prop} {a : Act} {l : List Oper} (hm : P.follows .mixedOrders = true) (hB : calmB .any l.toArray l.length = true)
    (h : ∀ M : In W, wpQuiet P l.toArray (fun w' => ∃ n : In M.w, w' = n.w) (fun a' => ∀ w', Below W.heap.size W w' → Q .normal a' w') l a) : (Code.region id l.toArray true).wp P Q a W := by
  refine wp_region_calm l.length l.length [] hm (by simp) (Nat.le_refl _) hB fun M => ?_
  have e : (fun a' => wpNews P l.toArray W (fun a'' G => ∀ w', Held W G w' → wpList P l.toArray Q (l.drop l.length) a'' w') ((l.drop l.length).take ([] : List (Obj × (Nat → Value))).length) [] a' Gh.none) =
      fun a' => ∀ w', Below W.heap.size W w' → Q .normal a' w' := by
    funext a'
    simp only [List.drop_length, List.length_nil, List.take_zero, wpNews, wpList]
    exact propext ⟨fun h w' hb => h w' ⟨hb, fun k o hk => by cases hk⟩, fun h w' hw => h w' hw.below⟩
  rw [e, List.take_length]
  exact h M

/-- Reads and calls, then a tail from n on. -/
theorem wp_region_calmT {id : Nat} {Q : Exit → Act → World → Prop} {a : Act} {l : List Oper} (n : Nat) (hm : P.follows .mixedOrders = true) (hle : n ≤ l.length) (hB : calmB .any l.toArray n = true)
    (h : ∀ M : In W, wpQuiet P l.toArray (fun w' => ∃ n : In M.w, w' = n.w) (fun a' => ∀ w', Below W.heap.size W w' → wpList P l.toArray Q (l.drop n) a' w') (l.take n) a) : (Code.region id l.toArray true).wp P Q a W := by
  refine wp_region_calm n n [] hm (by simp) hle hB fun M => ?_
  have e : (fun a' => wpNews P l.toArray W (fun a'' G => ∀ w', Held W G w' → wpList P l.toArray Q (l.drop n) a'' w') ((l.drop n).take ([] : List (Obj × (Nat → Value))).length) [] a' Gh.none) =
      fun a' => ∀ w', Below W.heap.size W w' → wpList P l.toArray Q (l.drop n) a' w' := by
    funext a'
    simp only [List.length_nil, List.take_zero, wpNews]
    exact propext ⟨fun h w' hb => h w' ⟨hb, fun k o hk => by cases hk⟩, fun h w' hw => h w' hw.below⟩
  rw [e]
  exact h M

/-- Reads and calls (m of them), new blocks (ns), then a tail from n on. -/
theorem wp_region_calmN {id : Nat} {Q : Exit → Act → World → Prop} {a : Act} {l : List Oper} (m n : Nat) (ns : List (Obj × (Nat → Value))) (hm : P.follows .mixedOrders = true)
    (hn : n = m + ns.length) (hle : n ≤ l.length) (hB : calmB .any l.toArray n = true)
    (h : ∀ M : In W, wpQuiet P l.toArray (fun w' => ∃ n : In M.w, w' = n.w) (fun a' => wpNews P l.toArray W (fun a'' G => ∀ w', Held W G w' → wpList P l.toArray Q (l.drop n) a'' w') ((l.drop m).take ns.length) ns a' Gh.none) (l.take m) a) :
    (Code.region id l.toArray true).wp P Q a W := wp_region_calm m n ns hm hn hle hB h
end

theorem below_drewN {B : Nat} {a w : World} (h : Below B a w) (n : Nat) : Below B a (w.drewN n) := by
  induction n with
  | zero => exact h
  | succ n ih => exact ih.drew
theorem ret_i {k : IntKind} {a b : Int} (h : a = b) : Ending.returned (.int k a) = .returned (.int k b) := by rw [h]
theorem ret_b {a b : Bool} (h : a = b) : Ending.returned (.bool a) = .returned (.bool b) := by rw [h]
end Go.Proofs.YtjmgokjljmmmgaaGreat
