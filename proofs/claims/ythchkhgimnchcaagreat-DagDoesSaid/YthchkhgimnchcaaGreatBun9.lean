/- Texts of this proof, joined: DgP; HeapMath; GrMath; Off; OneI; GraphRefA; GrA. -/
import Derived.Test.YthchkhgimnchcaaGreatBun8
import Derived.Lib.SlKeysI
import Derived.Test.YthchkhgimnchcaaGreatRows
/- A map of IDs to nodes in memory (map[int]*node): each key's pointer, or none: XMapG's laws in plain words. -/
namespace Go.Proofs.YthchkhgimnchcaaGreat
open Go.RowKit Go.Maps

def pv (x : Option Nat) : Value := .pointer (x.map fun b => ⟨b, 0, none⟩)
def encPd (x : Option Nat) : DataW Unit := .lit (.int .i64 (match x with | none => -1 | some b => (b : Int)))
def readPd : Value → Option (DataW Unit × List MemPlace)
  | .pointer none => some (encPd none, [])
  | .pointer (some ⟨b, 0, none⟩) => some (encPd (some b), [])
  | _ => none
theorem encP_injd {x y : Option Nat} (h : encPd x = encPd y) : x = y := by
  simp only [encPd, DataW.lit.injEq, Lit.int.injEq, true_and] at h
  cases x <;> cases y <;> simp only at h
  · rfl
  · omega
  · omega
  · rw [Int.ofNat.inj h]
theorem readP_invd (v : Value) (x : Option Nat) (ps : List MemPlace) (h : readPd v = some (encPd x, ps)) : v = pv x := by
  unfold readPd at h
  split at h
  · simp only [Option.some.injEq, Prod.mk.injEq] at h
    rw [← encP_injd h.1]
    rfl
  · simp only [Option.some.injEq, Prod.mk.injEq] at h
    rw [← encP_injd h.1]
    rfl
  · cases h
noncomputable def EPd : Elt Tryz.prog 75 where
  α := Option Nat
  val := pv
  enc := encPd
  ok := fun _ => True
  z := none
  R := readPd
  out := fun x _ => by cases x <;> rfl
  inv := readP_invd
  okz := trivial
  hz := fun w => by kernel_rfl
noncomputable def upP (g : Int → Option Nat) : Int → Option EPd.α := fun n => match g n with
  | none => none
  | some b => some (show EPd.α from (some b : Option Nat))
theorem upP_none {g : Int → Option Nat} {n : Int} (h : g n = none) : upP g n = none := by unfold upP; rw [h]
theorem upP_some {g : Int → Option Nat} {n : Int} {b : Nat} (h : g n = some b) : upP g n = some (show EPd.α from (some b : Option Nat)) := by unfold upP; rw [h]
theorem upP_is (g : Int → Option Nat) (n : Int) : (upP g n).isSome = (g n).isSome := by
  cases h : g n with
  | none => rw [upP_none h]; rfl
  | some b => rw [upP_some h]; rfl
theorem upP_upd (g : Int → Option Nat) (id : Int) (y : Nat) : updG (upP g) id (some (show EPd.α from (some y : Option Nat))) = upP (updG g id (some y)) := by
  funext n
  by_cases e : n = id
  · subst e
    rw [updG_same, upP_some (updG_same g n (some y))]
  · have h1 := updG_other (upP g) (some (show EPd.α from (some y : Option Nat))) e
    rw [h1]
    unfold upP
    rw [updG_other g (some y) e]
def MapP (w : World) (b m : Nat) (g : Int → Option Nat) : Prop := MapG EPd 3 w b m (upP g)
section
variable {w w' : World} {b m : Nat} {g : Int → Option Nat}
theorem MapP.lt (h : MapP w b m g) : b < w.heap.size := MapG.lt h
theorem MapP.same (h : MapP w b m g) (he : w'.heap[b]? = w.heap[b]?) : MapP w' b m g := MapG.same h he
theorem MapP.kept (h : MapP w b m g) (hb : Below w.heap.size w w') : MapP w' b m g := MapG.kept h hb
theorem MapP.new (w : World) : MapP (w.alloc (.map #[] 0)) w.heap.size 0 (fun _ => none) := MapG.new w
theorem MapP.ne_cell {a : Addr} {u : Value} (h : MapP w b m g) (hk : w.cell? a = some u) : b ≠ a.block := MapG.ne_cell h hk
theorem MapP.look1 (h : MapP w b m g) {id : Int} (hi : I64 id) : (Instr.lookup 56 (.map (some b)) (.int .i64 id) false).run Tryz.prog w = .ok (pv (g id)) w := by
  have := MapG.look1 (E := EPd) h Tryz.underlying3 Tryz.underlying56 hi
  rw [this]
  cases h2 : g id with
  | none => rw [upP_none h2]; rfl
  | some b => rw [upP_some h2]; rfl
theorem MapP.put (h : MapP w b m g) (hn : m ≤ 1000000) {id : Int} (hi : I64 id) (y : Nat) :
    ∃ w', (Instr.mapUpdate 56 (.map (some b)) (.int .i64 id) (.pointer (some ⟨y, 0, none⟩))).run Tryz.prog w = .ok () w' ∧ MapP w' b (if (g id).isSome then m else m + 1) (updG g id (some y)) ∧ w.grownBy w' (some b) := by
  obtain ⟨w', h1, h2, h3⟩ := MapG.store (E := EPd) h Tryz.underlying3 Tryz.underlying56 (by unfold maxLen; omega) hi (show EPd.α from some y) trivial
  rw [upP_upd, upP_is] at h2
  exact ⟨w', h1, h2, h3⟩
/-- as the iterators of maps.Keys want it: its datum, with its keys -/
theorem MapP.own (h : MapP w b m g) : ∃ D, w.ownsMap Tryz.prog 3 readPd b m D ∧ Maps.size D = m ∧ ∀ n, Maps.has D (.int .i64 n) = true ↔ I64 n ∧ (g n).isSome = true := by
  obtain ⟨D, h1, h2, h3⟩ := h
  refine ⟨D, h1, h2, fun n => ?_⟩
  constructor
  · intro hh
    have hi : I64 n := by
      obtain ⟨es, rfl, hk⟩ := h1.keysOf
      rw [has_eq, List.any_eq_true] at hh
      obtain ⟨p, hp, hs⟩ := hh
      obtain ⟨v, hv⟩ := hk p hp
      obtain ⟨y, _, hy, hwf⟩ := Maps.keyOf_i64 Tryz.underlying3 hv
      rw [hy] at hs
      have e : y = n := by simpa [Lit.sameKey] using hs
      subst e
      simp only [Lit.wf, Bool.and_eq_true, decide_eq_true_eq] at hwf
      exact hwf
    have := h3 n hi
    cases hg : g n with
    | none =>
      rw [upP_none hg] at this
      have h6 : Maps.has D (.int .i64 n) = false := this
      rw [h6] at hh
      cases hh
    | some y => exact ⟨hi, rfl⟩
  · rintro ⟨hi, hg⟩
    have := h3 n hi
    obtain ⟨y, hy⟩ := Option.isSome_iff_exists.1 hg
    rw [upP_some hy] at this
    exact this.1
end
end Go.Proofs.YthchkhgimnchcaaGreat
/- Stage 13: rows of things in order: plain mathematics. -/
namespace Go.Proofs.YthchkhgimnchcaaGreat

structure Th where
  id : Int
  key : Int
  seq : Int
deriving DecidableEq, Inhabited

def ahead (a b : Th) : Bool := if a.key ≠ b.key then decide (b.key < a.key) else if a.seq ≠ b.seq then decide (a.seq < b.seq) else decide (a.id < b.id)
theorem ahead_iff (a b : Th) : ahead a b = true ↔ b.key < a.key ∨ (a.key = b.key ∧ (a.seq < b.seq ∨ (a.seq = b.seq ∧ a.id < b.id))) := by
  unfold ahead
  by_cases h1 : a.key = b.key
  · rw [if_neg (by simpa using h1)]
    by_cases h2 : a.seq = b.seq
    · rw [if_neg (by simpa using h2), decide_eq_true_iff]
      omega
    · rw [if_pos h2, decide_eq_true_iff]
      omega
  · rw [if_pos h1, decide_eq_true_iff]
    omega
theorem ahead_trans {a b c : Th} (h1 : ahead a b = true) (h2 : ahead b c = true) : ahead a c = true := by
  rw [ahead_iff] at *
  omega
theorem ahead_else {a b : Th} (h : ahead a b = false) (hne : a.id ≠ b.id) : ahead b a = true := by
  have h' : ¬ ahead a b = true := by rw [h]; decide
  rw [ahead_iff] at *
  omega
theorem ahead_irr (a : Th) : ahead a a = false := by
  cases h : ahead a a with
  | false => rfl
  | true => rw [ahead_iff] at h; omega
theorem ahead_asym {a b : Th} (h : ahead a b = true) : ahead b a = false := by
  cases h2 : ahead b a with
  | false => rfl
  | true => rw [ahead_iff] at h h2; omega

/-- what is left without id -/
def dropT (l : List Th) (id : Int) : List Th := l.filter fun x => decide (x.id ≠ id)
theorem dropT_take (l : List Th) (id : Int) (k : Nat) (hk : k < l.length) : dropT (l.take (k + 1)) id = dropT (l.take k) id ++ (if l[k].id = id then [] else [l[k]]) := by
  rw [List.take_succ_eq_append_getElem hk]
  unfold dropT
  rw [List.filter_append]
  congr 1
  by_cases h : l[k].id = id <;> simp [h]
theorem dropT_len (l : List Th) (id : Int) : (dropT l id).length ≤ l.length := List.length_filter_le _ _
theorem dropT_mem (l : List Th) (id : Int) (x : Th) : x ∈ dropT l id ↔ x ∈ l ∧ x.id ≠ id := by simp [dropT]
/-- is there none of it -/
def hasT (l : List Th) (id : Int) : Bool := decide ((dropT l id).length < l.length)
/-- ahead of the first one that it is ahead of -/
def insT (x : Th) : List Th → List Th
  | [] => [x]
  | r :: t => if ahead x r then x :: r :: t else r :: insT x t
theorem insT_len (x : Th) : ∀ l, (insT x l).length = l.length + 1
  | [] => rfl
  | r :: t => by
    unfold insT
    split
    · rfl
    · rw [List.length_cons, insT_len x t, List.length_cons]
theorem insT_mem (x y : Th) : ∀ l, y ∈ insT x l ↔ y = x ∨ y ∈ l
  | [] => by simp [insT]
  | r :: t => by
    unfold insT
    split
    · simp
    · rw [List.mem_cons, insT_mem x y t, List.mem_cons]
      constructor
      · rintro (h | h | h)
        · exact .inr (.inl h)
        · exact .inl h
        · exact .inr (.inr h)
      · rintro (h | h | h)
        · exact .inr (.inl h)
        · exact .inl h
        · exact .inr (.inr h)
def putT (l : List Th) (x : Th) : List Th := insT x (dropT l x.id)
theorem putT_len (l : List Th) (x : Th) : (putT l x).length ≤ l.length + 1 := by
  unfold putT
  rw [insT_len]
  have := dropT_len l x.id
  omega
def fndT (l : List Th) (id : Int) : Th × Bool := match l.find? fun x => decide (x.id = id) with
  | some x => (x, true)
  | none => (⟨0, 0, 0⟩, false)
theorem fndT_head (x : Th) (l : List Th) : fndT (x :: l) x.id = (x, true) := by simp [fndT]

/-- in order -/
def srtT (l : List Th) : Prop := l.Pairwise fun a b => ahead a b = true
theorem srtT_nil : srtT [] := List.Pairwise.nil
theorem srtT_drop {l : List Th} (h : srtT l) (id : Int) : srtT (dropT l id) := List.Pairwise.filter _ h
theorem srtT_ins {l : List Th} {x : Th} (h : srtT l) (hne : ∀ y ∈ l, y.id ≠ x.id) : srtT (insT x l) := by
  induction l with
  | nil => exact List.pairwise_singleton _ _
  | cons r t ih =>
    have h1 := List.pairwise_cons.1 h
    unfold insT
    cases hx : ahead x r with
    | true =>
      refine List.pairwise_cons.2 ⟨fun y hy => ?_, h⟩
      rcases List.mem_cons.1 hy with rfl | hy
      · exact hx
      · exact ahead_trans hx (h1.1 y hy)
    | false =>
      refine List.pairwise_cons.2 ⟨fun y hy => ?_, ih h1.2 fun y hy => hne y (List.mem_cons_of_mem _ hy)⟩
      rcases (insT_mem x y t).1 hy with rfl | hy
      · exact ahead_else hx (Ne.symm (hne r List.mem_cons_self))
      · exact h1.1 y hy
theorem srtT_put {l : List Th} (h : srtT l) (x : Th) : srtT (putT l x) := srtT_ins (srtT_drop h x.id) fun _ hy => ((dropT_mem _ _ _).1 hy).2
theorem srtT_tail {l : List Th} (h : srtT l) (k : Nat) : srtT (l.drop k) := List.Pairwise.sublist (List.drop_sublist k l) h
theorem srtT_next {l : List Th} (h : srtT l) (k : Nat) (hk : k + 1 < l.length) : ahead l[k] l[k + 1] = true := List.pairwise_iff_getElem.1 h k (k + 1) (by omega) hk (by omega)
/-- rows in order of the same things are the same -/
theorem srtT_ids {l : List Th} (h : srtT l) : ∀ a ∈ l, ∀ b ∈ l, ahead a b = false → ahead b a = false → a = b := by
  intro a ha b hb h1 h2
  obtain ⟨i, hi, rfl⟩ := List.getElem_of_mem ha
  obtain ⟨j, hj, rfl⟩ := List.getElem_of_mem hb
  rcases Nat.lt_trichotomy i j with hij | rfl | hij
  · have := List.pairwise_iff_getElem.1 h i j hi hj hij
    rw [h1] at this; cases this
  · rfl
  · have := List.pairwise_iff_getElem.1 h j i hj hi hij
    rw [h2] at this; cases this
end Go.Proofs.YthchkhgimnchcaaGreat
/- Stage 16's program: what it keeps of a graph: plain mathematics. -/
namespace Go.Proofs.YthchkhgimnchcaaGreat

/-! ### Arrows that count -/
def vaB (nodes : List Int) (a : Arc16) : Bool := inL nodes a.src && inL nodes a.dst
def vaL (nodes : List Int) (arcs : List Arc16) : List Arc16 := arcs.filter (vaB nodes)
/-- to where they lead from it -/
def hdsL (nodes : List Int) (arcs : List Arc16) (n : Int) : List Int := ((vaL nodes arcs).filter fun a => decide (a.src = n)).map Arc16.dst
/-- how many lead to it from those that aren't told -/
def cnA (told : List Int) (n : Int) (l : List Arc16) : Nat := (l.filter fun a => decide (a.dst = n) && !inL told a.src).length
def awL (nodes : List Int) (arcs : List Arc16) (told : List Int) (n : Int) : Nat := cnA told n (vaL nodes arcs)
theorem vaL_take (nodes : List Int) (arcs : List Arc16) (k : Nat) (hk : k < arcs.length) : vaL nodes (arcs.take (k + 1)) = vaL nodes (arcs.take k) ++ (if vaB nodes arcs[k] then [arcs[k]] else []) := by
  unfold vaL
  rw [List.take_succ_eq_append_getElem hk, List.filter_append]
  congr 1
  by_cases h : vaB nodes arcs[k] <;> simp [h]
theorem vaL_len (nodes : List Int) (arcs : List Arc16) : (vaL nodes arcs).length ≤ arcs.length := List.length_filter_le _ _
theorem hdL_len (nodes : List Int) (arcs : List Arc16) (n : Int) : (hdsL nodes arcs n).length ≤ arcs.length := by
  unfold hdsL
  rw [List.length_map]
  exact Nat.le_trans (List.length_filter_le _ _) (vaL_len nodes arcs)
theorem awL_len (nodes : List Int) (arcs : List Arc16) (told : List Int) (n : Int) : awL nodes arcs told n ≤ arcs.length :=
  Nat.le_trans (List.length_filter_le _ _) (vaL_len nodes arcs)
theorem hdL_yes {nodes : List Int} {arcs : List Arc16} {k : Nat} (hk : k < arcs.length) (h : vaB nodes arcs[k] = true) (n : Int) :
    hdsL nodes (arcs.take (k + 1)) n = if n = arcs[k].src then hdsL nodes (arcs.take k) n ++ [arcs[k].dst] else hdsL nodes (arcs.take k) n := by
  unfold hdsL
  rw [vaL_take _ _ _ hk, if_pos h, List.filter_append, List.map_append]
  by_cases hn : n = arcs[k].src
  · rw [if_pos hn]; simp [hn]
  · rw [if_neg hn]; simp [Ne.symm hn]
theorem hdL_not {nodes : List Int} {arcs : List Arc16} {k : Nat} (hk : k < arcs.length) (h : vaB nodes arcs[k] = false) (n : Int) : hdsL nodes (arcs.take (k + 1)) n = hdsL nodes (arcs.take k) n := by
  unfold hdsL
  rw [vaL_take _ _ _ hk, h]
  simp
theorem awL_yes {nodes : List Int} {arcs : List Arc16} {k : Nat} (hk : k < arcs.length) (h : vaB nodes arcs[k] = true) (n : Int) :
    awL nodes (arcs.take (k + 1)) [] n = if n = arcs[k].dst then awL nodes (arcs.take k) [] n + 1 else awL nodes (arcs.take k) [] n := by
  unfold awL cnA
  rw [vaL_take _ _ _ hk, if_pos h, List.filter_append, List.length_append]
  by_cases hn : n = arcs[k].dst
  · rw [if_pos hn]; simp [hn, inL]
  · rw [if_neg hn]; simp [Ne.symm hn]
theorem awL_not {nodes : List Int} {arcs : List Arc16} {k : Nat} (hk : k < arcs.length) (h : vaB nodes arcs[k] = false) (n : Int) : awL nodes (arcs.take (k + 1)) [] n = awL nodes (arcs.take k) [] n := by
  unfold awL cnA
  rw [vaL_take _ _ _ hk, h]
  simp
theorem vaL_mem {nodes : List Int} {arcs : List Arc16} {a : Arc16} : a ∈ vaL nodes arcs ↔ a ∈ arcs ∧ a.src ∈ nodes ∧ a.dst ∈ nodes := by
  unfold vaL vaB
  rw [List.mem_filter, Bool.and_eq_true, inL_iff, inL_iff]
theorem hdL_mem {nodes : List Int} {arcs : List Arc16} {n m : Int} : m ∈ hdsL nodes arcs n ↔ ∃ a ∈ arcs, a.src = n ∧ a.dst = m ∧ n ∈ nodes ∧ m ∈ nodes := by
  unfold hdsL
  rw [List.mem_map]
  constructor
  · rintro ⟨a, h1, h2⟩
    obtain ⟨h3, h4⟩ := List.mem_filter.1 h1
    obtain ⟨h5, h6, h7⟩ := vaL_mem.1 h3
    have h8 : a.src = n := by simpa using h4
    exact ⟨a, h5, h8, h2, h8 ▸ h6, h2 ▸ h7⟩
  · rintro ⟨a, h1, rfl, rfl, h4, h5⟩
    exact ⟨a, List.mem_filter.2 ⟨vaL_mem.2 ⟨h1, h4, h5⟩, by simp⟩, rfl⟩
theorem hdL_none {nodes : List Int} {arcs : List Arc16} {n : Int} (h : n ∉ nodes) : hdsL nodes arcs n = [] := List.eq_nil_iff_forall_not_mem.2 fun m hm => by
  obtain ⟨a, h1, h2, h3, h4, h5⟩ := hdL_mem.1 hm
  exact h h4
theorem free_aw {nodes : List Int} {arcs : List Arc16} {told : List Int} {n : Int} (hn : n ∈ nodes) : freeG nodes arcs told n = true ↔ awL nodes arcs told n = 0 := by
  rw [freeG_iff]
  unfold awL cnA
  rw [List.length_eq_zero_iff, List.filter_eq_nil_iff]
  constructor
  · intro h a ha
    obtain ⟨h1, h2, h3⟩ := vaL_mem.1 ha
    simp only [Bool.and_eq_true, decide_eq_true_eq, Bool.not_eq_true', not_and]
    intro h4
    rw [inL_iff.2 (h a h1 h4 h2)]
    simp
  · intro h a ha h1 h2
    have := h a (vaL_mem.2 ⟨ha, h2, h1 ▸ hn⟩)
    simp only [Bool.and_eq_true, decide_eq_true_eq, Bool.not_eq_true', not_and] at this
    have := this h1
    exact inL_iff.1 (by simpa using this)
theorem cnA_cons (told : List Int) (n : Int) (a : Arc16) (V : List Arc16) : cnA told n (a :: V) = (if a.dst = n ∧ a.src ∉ told then 1 else 0) + cnA told n V := by
  unfold cnA
  by_cases h : a.dst = n ∧ a.src ∉ told
  · rw [if_pos h, List.filter_cons_of_pos (by simp [h.1, inL_not.2 h.2]), List.length_cons]
    omega
  · rw [if_neg h, List.filter_cons_of_neg (by
      simp only [Bool.and_eq_true, decide_eq_true_eq, Bool.not_eq_true', inL_not]
      exact h)]
    omega
theorem count_cons (x n : Int) (a : Arc16) (V : List Arc16) : (((a :: V).filter fun a => decide (a.src = x)).map Arc16.dst).count n = (if a.src = x ∧ a.dst = n then 1 else 0) + ((V.filter fun a => decide (a.src = x)).map Arc16.dst).count n := by
  by_cases h : a.src = x
  · rw [List.filter_cons_of_pos (by simpa using h), List.map_cons, List.count_cons]
    by_cases h2 : a.dst = n
    · rw [if_pos (show (a.dst == n) = true by simpa using h2), if_pos ⟨h, h2⟩]
      omega
    · rw [if_neg (show ¬ (a.dst == n) = true by simpa using h2), if_neg fun e => h2 e.2]
      omega
  · rw [List.filter_cons_of_neg (by simpa using h), if_neg fun e => h e.1]
    omega
theorem cnA_step (told : List Int) (x n : Int) (hx : x ∉ told) : ∀ V : List Arc16, cnA (told ++ [x]) n V + ((V.filter fun a => decide (a.src = x)).map Arc16.dst).count n = cnA told n V
  | [] => rfl
  | a :: V => by
    have ih := cnA_step told x n hx V
    rw [cnA_cons, cnA_cons, count_cons]
    have hm : a.src ∉ told ++ [x] ↔ a.src ∉ told ∧ a.src ≠ x := by simp
    by_cases h1 : a.dst = n
    · by_cases h2 : a.src = x
      · rw [if_neg (fun e => (hm.1 e.2).2 h2), if_pos ⟨h2, h1⟩, if_pos ⟨h1, by rw [h2]; exact hx⟩]
        omega
      · rw [if_neg (c := a.src = x ∧ a.dst = n) (fun e => h2 e.1)]
        by_cases h3 : a.src ∈ told
        · rw [if_neg (fun e => (hm.1 e.2).1 h3), if_neg (fun e => e.2 h3)]
          omega
        · rw [if_pos ⟨h1, hm.2 ⟨h3, h2⟩⟩, if_pos ⟨h1, h3⟩]
          omega
    · rw [if_neg (fun e => h1 e.1), if_neg (fun e => h1 e.2), if_neg (fun e => h1 e.1)]
      omega
theorem aw_step {nodes : List Int} {arcs : List Arc16} {told : List Int} {x : Int} (hx : x ∉ told) (n : Int) : awL nodes arcs (told ++ [x]) n + (hdsL nodes arcs x).count n = awL nodes arcs told n := cnA_step told x n hx _

/-! ### What is counted down -/
/-- what is awaited when the first j of x's heads are gone through -/
def awJ (nodes : List Int) (arcs : List Arc16) (told : List Int) (x : Int) (j : Nat) (n : Int) : Nat := awL nodes arcs told n - ((hdsL nodes arcs x).take j).count n
theorem awJ_zero (nodes : List Int) (arcs : List Arc16) (told : List Int) (x : Int) : awJ nodes arcs told x 0 = awL nodes arcs told := by
  funext n; unfold awJ; simp
theorem awJ_all {nodes : List Int} {arcs : List Arc16} {told : List Int} {x : Int} (hx : x ∉ told) : awJ nodes arcs told x (hdsL nodes arcs x).length = awL nodes arcs (told ++ [x]) := by
  funext n
  unfold awJ
  rw [List.take_length]
  have := aw_step (nodes := nodes) (arcs := arcs) hx n
  omega
theorem awJ_pos {nodes : List Int} {arcs : List Arc16} {told : List Int} {x : Int} (hx : x ∉ told) {j : Nat} (hj : j < (hdsL nodes arcs x).length) : 0 < awJ nodes arcs told x j (hdsL nodes arcs x)[j] := by
  unfold awJ
  have h1 := aw_step (nodes := nodes) (arcs := arcs) hx (hdsL nodes arcs x)[j]
  have h2 : ((hdsL nodes arcs x).take (j + 1)).count (hdsL nodes arcs x)[j] ≤ (hdsL nodes arcs x).count (hdsL nodes arcs x)[j] := (List.take_sublist _ _).count_le _
  rw [List.take_succ_eq_append_getElem hj, List.count_append, List.count_singleton_self] at h2
  omega
theorem awJ_next {nodes : List Int} {arcs : List Arc16} {told : List Int} {x : Int} {j : Nat} (hj : j < (hdsL nodes arcs x).length) (n : Int) :
    awJ nodes arcs told x (j + 1) n = if n = (hdsL nodes arcs x)[j] then awJ nodes arcs told x j n - 1 else awJ nodes arcs told x j n := by
  unfold awJ
  rw [List.take_succ_eq_append_getElem hj, List.count_append]
  by_cases hn : n = (hdsL nodes arcs x)[j]
  · rw [if_pos hn, ← hn, List.count_singleton_self]; omega
  · rw [if_neg hn, List.count_singleton]
    have : ((hdsL nodes arcs x)[j] == n) = false := by simpa using fun e => hn e.symm
    rw [this]
    simp

/-! ### Who is free -/
abbrev th0 (n : Int) : Th := ⟨n, 0, 0⟩
/-- the nodes for which nothing is awaited and that aren't told -/
def frL (nodes : List Int) (A : Int → Nat) (told : List Int) : List Int := nodes.filter fun n => decide (A n = 0) && !inL told n
def frT (nodes : List Int) (A : Int → Nat) (told : List Int) : List Th := (frL nodes A told).map th0
theorem frL_mem {nodes : List Int} {A : Int → Nat} {told : List Int} {n : Int} : n ∈ frL nodes A told ↔ n ∈ nodes ∧ A n = 0 ∧ n ∉ told := by
  unfold frL
  rw [List.mem_filter, Bool.and_eq_true, decide_eq_true_eq, Bool.not_eq_true', inL_not]
theorem frL_ris {nodes : List Int} (h : risL nodes) (A : Int → Nat) (told : List Int) : risL (frL nodes A told) := List.Pairwise.filter _ h
theorem frL_len (nodes : List Int) (A : Int → Nat) (told : List Int) : (frL nodes A told).length ≤ nodes.length := List.length_filter_le _ _
theorem frT_len (nodes : List Int) (A : Int → Nat) (told : List Int) : (frT nodes A told).length ≤ nodes.length := by
  unfold frT; rw [List.length_map]; exact frL_len _ _ _
theorem ahead0 (a b : Int) : ahead (th0 a) (th0 b) = decide (a < b) := by
  unfold ahead
  simp
theorem dropT0 (l : List Int) (x : Int) : dropT (l.map th0) x = (l.filter fun n => decide (n ≠ x)).map th0 := by
  unfold dropT
  rw [List.filter_map]
  rfl
theorem insT0 (x : Int) : ∀ (l : List Int), risL l → x ∉ l → insT (th0 x) (l.map th0) = (l.filter (fun n => decide (n < x)) ++ x :: l.filter fun n => decide (x < n)).map th0
  | [], _, _ => rfl
  | y :: t, h, hx => by
    have h1 := List.pairwise_cons.1 h
    have hxy : x ≠ y := fun e => hx (e ▸ List.mem_cons_self)
    rw [List.map_cons]
    unfold insT
    rw [ahead0]
    by_cases hlt : x < y
    · have e1 : (y :: t).filter (fun n => decide (n < x)) = [] := List.filter_eq_nil_iff.2 fun z hz => by
        rcases List.mem_cons.1 hz with rfl | hz
        · simp; omega
        · have := h1.1 z hz; simp; omega
      have e2 : (y :: t).filter (fun n => decide (x < n)) = y :: t := List.filter_eq_self.2 fun z hz => by
        rcases List.mem_cons.1 hz with rfl | hz
        · simpa using hlt
        · have := h1.1 z hz; simp; omega
      rw [e1, e2, if_pos (by simpa using hlt)]
      rfl
    · rw [if_neg (by simpa using hlt), insT0 x t h1.2 fun hm => hx (List.mem_cons_of_mem _ hm), List.filter_cons_of_pos (by simp; omega), List.filter_cons_of_neg (by simp; omega)]
      rfl
theorem putT0 {l r : List Int} {x : Int} (hl : risL l) (hr : risL r) (h : ∀ n, n ∈ r ↔ n = x ∨ n ∈ l) : putT (l.map th0) (th0 x) = r.map th0 := by
  unfold putT
  have hf : risL (l.filter fun n => decide (n ≠ x)) := List.Pairwise.filter _ hl
  have hx : x ∉ l.filter fun n => decide (n ≠ x) := fun hm => by simpa using (List.mem_filter.1 hm).2
  rw [show (th0 x).id = x from rfl, dropT0, insT0 x _ hf hx]
  have e := insS_is x hf
  rw [← e]
  congr 1
  refine (insS_ris x hf).eq hr fun n => ?_
  rw [insS_mem x n hf, h, List.mem_filter]
  constructor
  · rintro (h1 | h1)
    · exact .inl h1
    · exact .inr h1.1
  · rintro (h1 | h1)
    · exact .inl h1
    · by_cases hn : n = x
      · exact .inl hn
      · exact .inr ⟨h1, by simpa using hn⟩
/-- the first ones of them are put in -/
theorem frT_put {nodes : List Int} (hr : risL nodes) (A : Int → Nat) (i : Nat) (hi : i < nodes.length) (h0 : A nodes[i] = 0) : putT (frT (nodes.take i) A []) (th0 nodes[i]) = frT (nodes.take (i + 1)) A [] := by
  have hrt : ∀ k, risL (nodes.take k) := fun k => List.Pairwise.sublist (List.take_sublist _ _) hr
  refine putT0 (frL_ris (hrt _) _ _) (frL_ris (hrt _) _ _) fun n => ?_
  rw [frL_mem, frL_mem, List.take_succ_eq_append_getElem hi, List.mem_append, List.mem_singleton]
  constructor
  · rintro ⟨h1 | h1, h2, h3⟩
    · exact .inr ⟨h1, h2, h3⟩
    · exact .inl h1
  · rintro (rfl | ⟨h1, h2, h3⟩)
    · exact ⟨.inr rfl, h0, by simp⟩
    · exact ⟨.inl h1, h2, h3⟩
theorem frT_skip {nodes : List Int} (A : Int → Nat) (i : Nat) (hi : i < nodes.length) (h0 : A nodes[i] ≠ 0) : frT (nodes.take i) A [] = frT (nodes.take (i + 1)) A [] := by
  unfold frT frL
  rw [List.take_succ_eq_append_getElem hi, List.filter_append]
  simp [h0]
/-- one that is awaited once less -/
theorem frT_down {nodes : List Int} (hr : risL nodes) {A A' : Int → Nat} {told : List Int} {h : Int} (hh : h ∈ nodes) (hA : ∀ n, A' n = if n = h then A n - 1 else A n) (hp : 0 < A h) (ht : h ∉ told) :
    frT nodes A' told = if A' h = 0 then putT (frT nodes A told) (th0 h) else frT nodes A told := by
  have hAh := hA h
  rw [if_pos rfl] at hAh
  by_cases h0 : A' h = 0
  · rw [if_pos h0]
    refine (putT0 (frL_ris hr _ _) (frL_ris hr _ _) fun n => ?_).symm
    rw [frL_mem, frL_mem, hA]
    by_cases hn : n = h
    · subst hn
      simp [hh, ht]
      omega
    · simp [hn]
  · rw [if_neg h0]
    unfold frT frL
    congr 1
    refine List.filter_congr fun n _ => ?_
    rw [hA]
    by_cases hn : n = h
    · subst hn
      rw [if_pos rfl]
      have e1 : A n - 1 ≠ 0 := by omega
      have e2 : A n ≠ 0 := by omega
      simp [e1, e2]
    · rw [if_neg hn]
/-- the least one is told -/
theorem frT_pop {nodes : List Int} (hr : risL nodes) {A : Int → Nat} {told : List Int} {x : Int} {t : List Int} (h : frL nodes A told = x :: t) : (frT nodes A told).drop 1 = frT nodes A (told ++ [x]) := by
  unfold frT
  rw [h]
  show t.map th0 = _
  have h1 := List.pairwise_cons.1 (h ▸ frL_ris hr A told)
  congr 1
  refine risL.eq h1.2 (frL_ris hr _ _) fun n => ?_
  have hm : n ∈ x :: t ↔ n ∈ nodes ∧ A n = 0 ∧ n ∉ told := by rw [← h]; exact frL_mem
  rw [frL_mem, List.mem_append, List.mem_singleton]
  rw [List.mem_cons] at hm
  constructor
  · intro hn
    obtain ⟨a, b, c⟩ := hm.1 (.inr hn)
    refine ⟨a, b, fun h2 => ?_⟩
    rcases h2 with h2 | rfl
    · exact c h2
    · have := h1.1 _ hn; omega
  · rintro ⟨a, b, c⟩
    rcases hm.2 ⟨a, b, fun h2 => c (.inl h2)⟩ with rfl | h2
    · exact absurd (.inr rfl) c
    · exact h2
theorem next_aw {nodes : List Int} {arcs : List Arc16} {told : List Int} {n : Int} (hn : n ∈ nodes) : nextB nodes arcs told n = (decide (awL nodes arcs told n = 0) && !inL told n) := by
  unfold nextB
  rw [Bool.and_comm]
  congr 1
  cases hf : freeG nodes arcs told n with
  | true => exact (decide_eq_true ((free_aw hn).1 hf)).symm
  | false => exact (decide_eq_false fun h => by rw [(free_aw hn).2 h] at hf; cases hf).symm
theorem frL_next (nodes : List Int) (arcs : List Arc16) (told : List Int) : frL nodes (awL nodes arcs told) told = nodes.filter (nextB nodes arcs told) := by
  unfold frL
  exact List.filter_congr fun n hn => (next_aw hn).symm
/-- who is told next -/
theorem fr_head {nodes : List Int} {arcs : List Arc16} {told : List Int} {x : Int} {t : List Int} (h : frL nodes (awL nodes arcs told) told = x :: t) (f : Nat) :
    ordG nodes arcs (f + 1) told = ordG nodes arcs f (told ++ [x]) ∧ x ∈ nodes ∧ nextB nodes arcs told x = true ∧ x ∉ told := by
  have hm : x ∈ frL nodes (awL nodes arcs told) told := by rw [h]; exact List.mem_cons_self
  obtain ⟨h1, h2, h3⟩ := frL_mem.1 hm
  refine ⟨?_, h1, by rw [next_aw h1, h2, inL_not.2 h3]; rfl, h3⟩
  rw [frL_next] at h
  have e : nodes.find? (nextB nodes arcs told) = some x := by
    rw [← List.head?_filter, h]
    rfl
  conv => lhs; unfold ordG
  rw [e]
theorem fr_none {nodes : List Int} {arcs : List Arc16} {told : List Int} (h : frL nodes (awL nodes arcs told) told = []) (f : Nat) : ordG nodes arcs f told = told :=
  ordG_end (fun n hn => by
    have := List.eq_nil_iff_forall_not_mem.1 (frL_next nodes arcs told ▸ h) n
    rw [List.mem_filter, not_and] at this
    simpa using this hn) f
/-- one that is told is awaited by nobody: its heads are no such -/
theorem head_new {nodes : List Int} {arcs : List Arc16} {told : List Int} {x m : Int} (ho : OrdI nodes arcs told) (hx : x ∈ nodes) (hb : nextB nodes arcs told x = true) (hm : m ∈ hdsL nodes arcs x) : m ∉ told ++ [x] := by
  obtain ⟨a, h1, h2, h3, h4, h5⟩ := hdL_mem.1 hm
  have ho2 := ho.next hx hb
  intro hin
  obtain ⟨i, hi, e⟩ := List.getElem_of_mem hin
  have h6 := ho2.pre i hi a h1 (h3.trans e.symm) (h2 ▸ hx)
  rw [h2] at h6
  rw [List.length_append] at hi
  simp only [List.length_cons, List.length_nil] at hi
  rw [List.take_append_of_le_length (by omega)] at h6
  have hnt : x ∉ told := by
    unfold nextB at hb
    rw [Bool.and_eq_true, Bool.not_eq_true', inL_not] at hb
    exact hb.1
  exact hnt (List.mem_of_mem_take h6)

/-! ### Levels -/
/-- the level of n when the first j of x's heads are gone through -/
def lvJ (H : List Int) (lx : Int) (j : Nat) (old : Int → Int) (n : Int) : Int := if n ∈ H.take j then max (old n) (lx + 1) else old n
theorem lvJ_zero (H : List Int) (lx : Int) (old : Int → Int) : lvJ H lx 0 old = old := by funext n; unfold lvJ; simp
theorem lvJ_next {H : List Int} {lx : Int} {j : Nat} {old : Int → Int} (hj : j < H.length) (n : Int) :
    lvJ H lx (j + 1) old n = if n = H[j] then max (lvJ H lx j old n) (lx + 1) else lvJ H lx j old n := by
  unfold lvJ
  rw [List.take_succ_eq_append_getElem hj]
  by_cases hn : n = H[j]
  · rw [if_pos hn, if_pos (by rw [List.mem_append, List.mem_singleton]; exact .inr hn)]
    split
    · omega
    · rfl
  · rw [if_neg hn]
    by_cases hm : n ∈ H.take j
    · rw [if_pos hm, if_pos (List.mem_append_left _ hm)]
    · rw [if_neg hm, if_neg (by rw [List.mem_append, List.mem_singleton]; rintro (h | h); exact hm h; exact hn h)]
theorem lvA_one (arcs : List Arc16) (n x lx : Int) : ∀ m, lvA arcs n (x, lx) m = if (∃ a ∈ arcs, a.src = x ∧ a.dst = n) then max m (lx + 1) else m := by
  induction arcs with
  | nil => intro m; simp [lvA]
  | cons a t ih =>
    intro m
    have e : lvA (a :: t) n (x, lx) m = lvA t n (x, lx) (if a.src = x ∧ a.dst = n then max m (lx + 1) else m) := rfl
    rw [e, ih]
    by_cases h1 : a.src = x ∧ a.dst = n
    · rw [if_pos h1, if_pos (show ∃ b ∈ a :: t, b.src = x ∧ b.dst = n from ⟨a, List.mem_cons_self, h1⟩)]
      split
      · omega
      · rfl
    · rw [if_neg h1]
      by_cases h2 : ∃ b ∈ t, b.src = x ∧ b.dst = n
      · rw [if_pos h2]
        obtain ⟨b, hb, h3⟩ := h2
        rw [if_pos ⟨b, List.mem_cons_of_mem _ hb, h3⟩]
      · rw [if_neg h2, if_neg]
        rintro ⟨b, hb, h3⟩
        rcases List.mem_cons.1 hb with rfl | hb
        · exact h1 h3
        · exact h2 ⟨b, hb, h3⟩
def lvG (arcs : List Arc16) (told : List Int) (n : Int) : Int := lvP arcs n (levP arcs told)
theorem lvG_step {nodes : List Int} (arcs : List Arc16) (told : List Int) {x n : Int} (hx : x ∈ nodes) (hn : n ∈ nodes) :
    lvG arcs (told ++ [x]) n = lvJ (hdsL nodes arcs x) (lvG arcs told x) (hdsL nodes arcs x).length (lvG arcs told) n := by
  unfold lvG lvJ
  rw [levP_snoc, List.take_length]
  have e : lvP arcs n (levP arcs told ++ [(x, lvP arcs x (levP arcs told))]) = lvA arcs n (x, lvP arcs x (levP arcs told)) (lvP arcs n (levP arcs told)) := by
    unfold lvP
    rw [List.foldl_append]
    rfl
  rw [e, lvA_one]
  by_cases h : ∃ a ∈ arcs, a.src = x ∧ a.dst = n
  · obtain ⟨a, h1, h2, h3⟩ := h
    rw [if_pos ⟨a, h1, h2, h3⟩, if_pos (hdL_mem.2 ⟨a, h1, h2, h3, hx, hn⟩)]
  · rw [if_neg h, if_neg fun hm => h (by obtain ⟨a, h1, h2, h3, _⟩ := hdL_mem.1 hm; exact ⟨a, h1, h2, h3⟩)]
theorem lvG_bd (arcs : List Arc16) (told : List Int) (n : Int) : 0 ≤ lvG arcs told n ∧ lvG arcs told n ≤ told.length := by
  refine ⟨lvP_nonneg _ _ _, ?_⟩
  have h := lvP_le arcs n (levP arcs told) (levP_le arcs told) _ (Nat.le_refl _)
  rw [List.take_length, levP_len] at h
  exact h
theorem lvG_nil (arcs : List Arc16) (n : Int) : lvG arcs [] n = 0 := rfl
/-- the levels of those that are told -/
def gT (arcs : List Arc16) (told : List Int) (n : Int) : Option Int := if n ∈ told then some (levOf (levP arcs told) n) else none
theorem levOf_snoc (P : List (Int × Int)) (p : Int × Int) (n : Int) : levOf (P ++ [p]) n = if p.1 = n then p.2 else levOf P n := by
  unfold levOf
  rw [List.foldl_append]
  rfl
theorem gT_snoc (arcs : List Arc16) (told : List Int) (x : Int) : gT arcs (told ++ [x]) = fun n => if n = x then some (lvG arcs told x) else gT arcs told n := by
  funext n
  unfold gT lvG
  rw [levP_snoc, levOf_snoc]
  by_cases hn : n = x
  · subst hn; simp
  · rw [if_neg hn, if_neg (Ne.symm hn)]
    by_cases hm : n ∈ told
    · rw [if_pos hm, if_pos (List.mem_append_left _ hm)]
    · rw [if_neg hm, if_neg (by rw [List.mem_append, List.mem_singleton]; rintro (h | h); exact hm h; exact hn h)]
theorem gT_nil (arcs : List Arc16) : gT arcs [] = fun _ => none := by funext n; simp [gT]
theorem gT_some {arcs : List Arc16} {told : List Int} {n : Int} : (gT arcs told n).isSome = inL told n := by
  unfold gT
  by_cases h : n ∈ told
  · rw [if_pos h, inL_iff.2 h]; rfl
  · rw [if_neg h, inL_not.2 h]; rfl

/-! ### Reaching -/
/-- what is gone through: what was reached, and what waits -/
structure RchI (nodes : List Int) (arcs : List Arc16) (frm done wait : List Int) : Prop where
  ti : ToldI nodes done
  inn : ∀ n ∈ done ++ wait, n ∈ nodes → n ∈ itR nodes arcs nodes.length (nodes.filter fun n => inL frm n)
  from_ : ∀ n ∈ frm, n ∈ nodes → n ∈ done ∨ n ∈ wait
  heads : ∀ n ∈ done, ∀ m ∈ hdsL nodes arcs n, m ∈ done ∨ m ∈ wait
theorem rowR_sub {nodes : List Int} : ∀ (arcs : List Arc16) (out : List Int), ∀ n ∈ out, n ∈ rowR nodes arcs out
  | [], _, _, h => h
  | _ :: t, _, n, h => rowR_sub t _ n (by
    unfold stepR
    split
    · exact List.mem_append_left _ h
    · exact h)
theorem itR_sub {nodes : List Int} {arcs : List Arc16} {o : List Int} : ∀ k, ∀ n ∈ o, n ∈ itR nodes arcs k o
  | 0, _, h => h
  | k + 1, n, h => rowR_sub arcs _ n (itR_sub k n h)
theorem stepR_in {nodes out X : List Int} {a : Arc16} (h : ∀ n ∈ out, n ∈ X) (hc : a.src ∈ X → a.dst ∈ nodes → a.dst ∈ X) : ∀ n ∈ stepR nodes out a, n ∈ X := by
  intro n hn
  unfold stepR at hn
  split at hn
  · rename_i hcc
    simp only [Bool.and_eq_true, Bool.not_eq_true'] at hcc
    rcases List.mem_append.1 hn with h1 | h1
    · exact h n h1
    · rw [List.mem_singleton.1 h1]
      exact hc (h _ (inL_iff.1 hcc.1.1)) (inL_iff.1 hcc.1.2)
  · exact h n hn
theorem rowR_in {nodes X : List Int} : ∀ (arcs : List Arc16) (out : List Int), (∀ n ∈ out, n ∈ X) → (∀ a ∈ arcs, a.src ∈ X → a.dst ∈ nodes → a.dst ∈ X) → ∀ n ∈ rowR nodes arcs out, n ∈ X
  | [], _, h, _ => h
  | a :: t, _, h, hc => rowR_in t _ (stepR_in h (hc a List.mem_cons_self)) fun b hb => hc b (List.mem_cons_of_mem _ hb)
theorem itR_in {nodes X : List Int} {arcs : List Arc16} {o : List Int} (h : ∀ n ∈ o, n ∈ X) (hc : ∀ a ∈ arcs, a.src ∈ X → a.dst ∈ nodes → a.dst ∈ X) : ∀ k, ∀ n ∈ itR nodes arcs k o, n ∈ X
  | 0 => h
  | k + 1 => rowR_in arcs _ (itR_in h hc k) hc
theorem start_told {nodes : List Int} (hr : risL nodes) (frm : List Int) : ToldI nodes (nodes.filter fun n => inL frm n) := ⟨fun _ h => (List.mem_filter.1 h).1, hr.nodup.filter _⟩
theorem RchI.start {nodes : List Int} {arcs : List Arc16} {frm : List Int} : RchI nodes arcs frm [] frm :=
  ⟨ToldI.nil _, fun n hn h => itR_sub _ n (List.mem_filter.2 ⟨h, inL_iff.2 (by simpa using hn)⟩), fun n hn _ => .inr hn, fun n hn => (by cases hn)⟩
/-- the last that waits is no node, or was reached -/
theorem RchI.skip {nodes : List Int} {arcs : List Arc16} {frm done wait : List Int} {x : Int} (h : RchI nodes arcs frm done (wait ++ [x])) (hx : x ∉ nodes ∨ x ∈ done) : RchI nodes arcs frm done wait := by
  have key : ∀ m, m ∈ nodes → m ∈ done ∨ m ∈ wait ++ [x] → m ∈ done ∨ m ∈ wait := by
    rintro m hm (h1 | h1)
    · exact .inl h1
    · rcases List.mem_append.1 h1 with h2 | h2
      · exact .inr h2
      · rw [List.mem_singleton.1 h2] at hm ⊢
        rcases hx with hx | hx
        · exact absurd hm hx
        · exact .inl hx
  exact ⟨h.ti, fun n hn => h.inn n (by rcases List.mem_append.1 hn with h1 | h1; exact List.mem_append_left _ h1; exact List.mem_append_right _ (List.mem_append_left _ h1)), fun n hn hm => key n hm (h.from_ n hn hm), fun n hn m hm => key m (by obtain ⟨_, _, _, _, _, h5⟩ := hdL_mem.1 hm; exact h5) (h.heads n hn m hm)⟩
/-- the last that waits is reached -/
theorem RchI.step {nodes : List Int} {arcs : List Arc16} {frm done wait : List Int} {x : Int} (hr : risL nodes) (h : RchI nodes arcs frm done (wait ++ [x])) (hx : x ∈ nodes) (hd : x ∉ done) : RchI nodes arcs frm (done ++ [x]) (wait ++ hdsL nodes arcs x) := by
  have hin : x ∈ itR nodes arcs nodes.length (nodes.filter fun n => inL frm n) := h.inn x (by simp) hx
  have hc := itR_closed (arcs := arcs) (start_told hr frm)
  refine ⟨⟨fun n hn => ?_, List.nodup_append.2 ⟨h.ti.nodup, by simp, fun a ha b hb e => by rw [List.mem_singleton.1 hb] at e; subst e; exact hd ha⟩⟩, fun n hn hm => ?_, fun n hn hm => ?_, fun n hn m hm => ?_⟩
  · rcases List.mem_append.1 hn with h1 | h1
    · exact h.ti.sub n h1
    · rw [List.mem_singleton.1 h1]; exact hx
  · rcases List.mem_append.1 hn with h1 | h1
    · rcases List.mem_append.1 h1 with h2 | h2
      · exact h.inn n (List.mem_append_left _ h2) hm
      · rw [List.mem_singleton.1 h2]; exact hin
    · rcases List.mem_append.1 h1 with h2 | h2
      · exact h.inn n (List.mem_append_right _ (List.mem_append_left _ h2)) hm
      · obtain ⟨a, h3, h4, h5, _, _⟩ := hdL_mem.1 h2
        rw [← h5] at hm ⊢
        exact hc a h3 (h4 ▸ hin) hm
  · rcases h.from_ n hn hm with h1 | h1
    · exact .inl (List.mem_append_left _ h1)
    · rcases List.mem_append.1 h1 with h2 | h2
      · exact .inr (List.mem_append_left _ h2)
      · exact .inl (List.mem_append_right _ h2)
  · rcases List.mem_append.1 hn with h1 | h1
    · rcases h.heads n h1 m hm with h2 | h2
      · exact .inl (List.mem_append_left _ h2)
      · rcases List.mem_append.1 h2 with h3 | h3
        · exact .inr (List.mem_append_left _ h3)
        · exact .inl (List.mem_append_right _ h3)
    · rw [List.mem_singleton.1 h1] at hm
      exact .inr (List.mem_append_right _ hm)
/-- nothing waits any more -/
theorem RchI.done {ids : List Int} {arcs : List Arc16} {frm done : List Int} (h : RchI (setL ids) arcs frm done []) : ∀ x, x ∈ done ↔ x ∈ reachL ids arcs frm := by
  intro x
  unfold reachL startR
  rw [setL_mem]
  constructor
  · intro hx
    exact h.inn x (List.mem_append_left _ hx) (h.ti.sub x hx)
  · refine itR_in (fun n hn => ?_) (fun a ha h1 h2 => ?_) _ x
    · obtain ⟨h1, h2⟩ := List.mem_filter.1 hn
      simpa using h.from_ n (inL_iff.1 h2) h1
    · have := h.heads a.src h1 a.dst (hdL_mem.2 ⟨a, ha, rfl, rfl, h.ti.sub _ h1, h2⟩)
      simpa using this
theorem RchI.len {nodes : List Int} {arcs : List Arc16} {frm done wait : List Int} (h : RchI nodes arcs frm done wait) : done.length ≤ nodes.length := h.ti.len
end Go.Proofs.YthchkhgimnchcaaGreat
/- Lists in memory that lie outside what an object has. -/
namespace Go.Proofs.YthchkhgimnchcaaGreat
open Go.RowKit

/-- a list of n things that lies outside X -/
def OffV (X : Nat → Prop) (v : Value) (n : Nat) : Prop := 0 < n → ∀ g, v.ownBlock = some g → ¬ X g
section
variable {α : Type} {w w' : World} {K : Nat} {cs : α → List Value} {v : Value} {l : List α} {F F' X Y : Nat → Prop}
theorem RowsAt.lt (h : RowsAt w K cs v l) (h0 : 0 < l.length) : ∀ g, v.ownBlock = some g → g < w.heap.size := by
  obtain ⟨a, c, rfl, hc, hx⟩ := h
  obtain ⟨g, o, rfl, hg, _⟩ := hx h0
  intro k hk
  simp [Value.ownBlock] at hk
  omega
theorem RowsAt.same (h : RowsAt w K cs v l) (hz : w.heap.size ≤ w'.heap.size) (he : 0 < l.length → ∀ g, v.ownBlock = some g → w'.heap[g]? = w.heap[g]?) : RowsAt w' K cs v l := by
  obtain ⟨a, c, rfl, hc, hx⟩ := h
  refine ⟨a, c, rfl, hc, fun h0 => ?_⟩
  obtain ⟨g, o, rfl, hg, hcell⟩ := hx h0
  have e := he h0 g rfl
  exact ⟨g, o, rfl, by omega, fun j x hj i u hu => (World.cell?_of_block (a := ⟨g, o + j * K + i, none⟩) e).trans (hcell j x hj i u hu)⟩
theorem RowsAt.only (h : RowsAt w K cs v l) (ho : Only F w w') (hf : OffV F v l.length) : RowsAt w' K cs v l := h.same ho.size fun h0 g hg => ho.block g (h.lt h0 g hg) (hf h0 g hg)
theorem RowsAt.awayV (h : RowsAt w K cs v l) (a : Addr) (u : Value) (hf : OffV (fun k => k = a.block) v l.length) : RowsAt (w.setCell a u) K cs v l :=
  h.same (by simp [World.setCell]) fun h0 g hg => Below.heap_setCell w a u g (hf h0 g hg)
theorem OffV.mv (h : OffV F v l.length) (hb : RowsAt w K cs v l) (hm : Mv F F' w w') : OffV F' v l.length := fun h0 g hg => hm.off (hb.lt h0 g hg) (h h0 g hg)
theorem OffV.mono {n : Nat} (h : OffV X v n) (hs : ∀ k, Y k → X k) : OffV Y v n := fun h0 g hg hy => h h0 g hg (hs g hy)
theorem OffV.nil : OffV X v 0 := fun h => absurd h (Nat.lt_irrefl 0)
/-- what a call has gathered by itself lies outside what was there -/
theorem OwnR.off {B n : Nat} {e : TypeId} (h : OwnR w B e K cs v l) (hX : ∀ k, X k → k < B) : OffV X v n := fun _ g hg hx => by
  have h1 := (World.ownsRow.lt h g hg).1
  have h2 := hX g hx
  omega
end
/-- the rest of a list, as the model cuts it -/
theorem restAt13 {α : Type} {w : World} {K : Nat} {cs : α → List Value} {a : Option Addr} {n c : Nat} {l : List α} (h : RowsAt w K cs (.slice a n c) l) (k : Nat) (hk : k ≤ l.length) (a' : Option Addr) (ha : k < c → ∀ g o, a = some ⟨g, o, none⟩ → a' = some ⟨g, o + k * K, none⟩) : RowsAt w K cs (.slice a' (n - k) (c - k)) (l.drop k) := by
  obtain ⟨a0, c0, e, hc, hx⟩ := h
  cases e
  refine ⟨a', c - k, by rw [List.length_drop], by rw [List.length_drop]; omega, fun h0 => ?_⟩
  rw [List.length_drop] at h0
  obtain ⟨g, o, rfl, hg, hcell⟩ := hx (by omega)
  refine ⟨g, o + k * K, ha (by omega) g o rfl, hg, fun j x hj i u hu => ?_⟩
  rw [List.getElem?_drop] at hj
  have := hcell (k + j) x hj i u hu
  rw [Nat.add_mul] at this
  rw [← this]
  congr 2
  omega
theorem OwnR.base13 {α : Type} {w : World} {B B' : Nat} {e : TypeId} {K : Nat} {cs : α → List Value} {v : Value} {l : List α} (h : OwnR w B e K cs v l) (hB : B' ≤ B) : OwnR w B' e K cs v l := by
  refine ⟨h.1, ?_⟩
  rcases h.2 with h1 | ⟨g, cap, cur, e, hg, hr⟩
  · exact .inl h1
  · exact .inr ⟨g, cap, cur, e, Nat.le_trans hB hg, hr⟩
/-- a new row of nothing -/
theorem OwnR.empty (w : World) {α : Type} (K : Nat) (cs : α → List Value) (e : TypeId) (B : Nat) (hB : w.heap.size = B) : OwnR (w.alloc (.cells #[] e)) B e K cs (.slice (some ⟨B, 0, none⟩) 0 0) [] := by
  subst hB
  exact ⟨by simp [flats], .inr ⟨w.heap.size, 0, #[], rfl, Nat.le_refl _, heap_alloc_new w _, Nat.le_refl _, by simp [maxLen], by simp, by simp [flats]⟩⟩
end Go.Proofs.YthchkhgimnchcaaGreat
/- One number in new memory. -/
namespace Go.Proofs.YthchkhgimnchcaaGreat
open Go.RowKit

theorem oneI13 (w : World) (n : Int) : RowsAt (w.alloc (.cells #[.int .i64 n] 3)) 1 csI (.slice (some ⟨w.heap.size, 0, none⟩) 1 1) [n] := by
  refine ⟨_, 1, rfl, Nat.le_refl _, fun _ => ⟨w.heap.size, 0, rfl, by simp, fun j x hj i u hu => ?_⟩⟩
  have h0 : j = 0 ∧ x = n := by
    cases j with
    | zero => simp at hj; exact ⟨rfl, hj.symm⟩
    | succ j => simp at hj
  obtain ⟨rfl, rfl⟩ := h0
  have h1 : i = 0 ∧ u = .int .i64 x := by
    cases i with
    | zero => simp [csI] at hu; exact ⟨rfl, hu.symm⟩
    | succ i => simp [csI] at hu
  obtain ⟨rfl, rfl⟩ := h1
  go_simp
theorem csI_one13 (n : Int) : ∀ u ∈ csI n, u.oneCell' = true := by
  intro u hu
  simp [csI] at hu
  subst hu
  rfl
end Go.Proofs.YthchkhgimnchcaaGreat
/- Stage 16: the document's In, Set, free. -/
namespace Go.Proofs.YthchkhgimnchcaaGreat
open Go.RowKit

def csArc (a : Arc16) : List Value := [.int .i64 a.src, .int .i64 a.dst]
theorem csArc_len (a : Arc16) : (csArc a).length = 2 := rfl
abbrev ArcsAt (w : World) (v : Value) (l : List Arc16) : Prop := RowsAt w 2 csArc v l
theorem ArcsAt.at {w : World} {v : Value} {l : List Arc16} (h : ArcsAt w v l) (k : Nat) (hk : k < l.length) :
    ∃ g o c, v = .slice (some ⟨g, o, none⟩) l.length c ∧ l.length ≤ c ∧ g < w.heap.size ∧ w.cell? ⟨g, o + k * 2, none⟩ = some (.int .i64 l[k].src) ∧ w.cell? ⟨g, o + k * 2 + 1, none⟩ = some (.int .i64 l[k].dst) := by
  obtain ⟨a, c, rfl, hc, hx⟩ := h
  obtain ⟨g, o, rfl, hg, hcell⟩ := hx (by omega)
  exact ⟨g, o, c, rfl, hc, hg, hcell k _ (List.getElem?_eq_getElem hk) 0 _ rfl, hcell k _ (List.getElem?_eq_getElem hk) 1 _ rfl⟩
theorem inL_take (l : List Int) (n : Int) (k : Nat) (hk : k < l.length) (h : l[k] ≠ n) (h0 : n ∉ l.take k) : n ∉ l.take (k + 1) := by
  rw [List.take_succ_eq_append_getElem hk, List.mem_append, List.mem_singleton]
  rintro (h1 | h1)
  · exact h0 h1
  · exact h h1.symm

set_option maxHeartbeats 2000000 in
theorem refIn_any (va : Value) (l : List Int) (n : Int) (W : World) (ha : IntsAt W va l) (hl : l.length ≤ 1000000) :
    Calls Tryz.prog 32 #[va, .int .i64 n] W fun e w' => e = .returned (.bool (inL l n)) ∧ W = w' := by
  have HA := Lib.hid ha
  obtain ⟨a, c, rfl⟩ := IntsAt.form ha
  clear ha
  go_enter Tryz.func32, Tryz.ntmps32
  go_wp2
  go_loopw [5] (fun iv wr => ∃ k : Nat, k ≤ l.length ∧ iv = .int .i64 k ∧ n ∉ l.take k ∧ W = wr) (fun iv _ => l.length - (Go.RowKit.intOf iv).toNat)
  case atStart => exact ⟨0, by omega, rfl, by simp, rfl⟩
  case round =>
    obtain ⟨k, hk, rfl, hno, rfl⟩ := hrel
    by_cases hlt : k < l.length
    · obtain ⟨g, o, cc, e, hlc, _, p0⟩ := IntsAt.spot HA.out k hlt
      cases e
      have j1 : (k : Int) < (l.length : Int) := by omega
      have j0 : (0 : Int) ≤ (k : Int) := by omega
      by_cases hx : l[k] = n
      · have HIN := Lib.hid (show inL l n = true from decide_eq_true (hx ▸ List.getElem_mem hlt))
        rw [hx] at p0
        clear hx hno hlt
        go_wp2
        go_ret
        exact ⟨ret_b HIN.out.symm, rfl⟩
      · have HNO := Lib.hid (inL_take l n k hlt hx hno)
        have hx2 : (l[k] == n) = false := beq_noI hx
        generalize l[k] = x at *
        clear hx hno hlt
        go_wp2
        go_roundw
        case rel => exact ⟨k + 1, by omega, by go_num, HNO.out, by trivial⟩
        case measure => simp [Go.RowKit.intOf] <;> omega
    · have hke : k = l.length := by omega
      subst hke
      rw [List.take_length] at hno
      have HIN := Lib.hid (show inL l n = false from decide_eq_false hno)
      clear hno hlt
      go_wp2
      go_ret
      exact ⟨ret_b HIN.out.symm, rfl⟩

set_option maxHeartbeats 4000000 in
set_option maxRecDepth 100000 in
theorem refFree_any (vn va vt : Value) (nodes : List Int) (arcs : List Arc16) (told : List Int) (n : Int) (W : World) (hn : IntsAt W vn nodes) (ha : ArcsAt W va arcs) (ht : IntsAt W vt told) (hl1 : nodes.length ≤ 1000000) (hl2 : arcs.length ≤ 1000000) (hl3 : told.length ≤ 1000000) :
    Calls Tryz.prog 84 #[vn, va, vt, .int .i64 n] W fun e w' => e = .returned (.bool (freeG nodes arcs told n)) ∧ W = w' := by
  have HA := Lib.hid ha
  have G1 := Lib.hid fun x => refIn_any vn nodes x W hn hl1
  have G2 := Lib.hid fun x => refIn_any vt told x W ht hl3
  obtain ⟨a, c, rfl⟩ := RowsAt.form ha
  obtain ⟨a1, c1, rfl⟩ := IntsAt.form hn
  obtain ⟨a2, c2, rfl⟩ := IntsAt.form ht
  clear ha hn ht
  go_enter Tryz.func84, Tryz.ntmps84
  go_wp2
  go_loopw [9] (fun iv wr => ∃ k : Nat, k ≤ arcs.length ∧ iv = .int .i64 k ∧ freeG nodes (arcs.take k) told n = true ∧ W = wr) (fun iv _ => arcs.length - (Go.RowKit.intOf iv).toNat)
  case atStart => exact ⟨0, by omega, rfl, by simp [freeG], rfl⟩
  case round =>
    obtain ⟨k, hk, rfl, hfr, rfl⟩ := hrel
    by_cases hlt : k < arcs.length
    · obtain ⟨g, o, cc, e, hlc, _, p0, p1⟩ := ArcsAt.at HA.out k hlt
      cases e
      have j1 : (k : Int) < (arcs.length : Int) := by omega
      have j0 : (0 : Int) ≤ (k : Int) := by omega
      have hnx := freeG_take nodes arcs told n k hlt
      have hno := freeG_no (nodes := nodes) (told := told) (n := n) k hlt
      rw [hfr, Bool.true_and] at hnx
      have g1 := G1.out arcs[k].src
      have g2 := G2.out arcs[k].src
      generalize inL nodes arcs[k].src = t1 at *
      generalize inL told arcs[k].src = t2 at *
      have GA := Lib.hid g1
      have GB := Lib.hid g2
      obtain ⟨x, hx⟩ : ∃ x, arcs[k].src = x := ⟨_, rfl⟩
      obtain ⟨y, hy⟩ : ∃ y, arcs[k].dst = y := ⟨_, rfl⟩
      rw [hx] at GA GB p0
      rw [hy] at hnx hno p1
      clear hx hy g1 g2 hlt
      by_cases hyn : y = n
      · subst hyn
        rw [decide_eq_true rfl, Bool.true_and] at hnx hno
        cases t1
        · have HN := Lib.hid hnx
          clear hnx hno hfr
          go_wp2_with (first
            | (go_at_call 32; (with_reducible refine GA.out.mono ?_); rintro e w1 ⟨rfl, rfl⟩)
            | (go_at_call 32; (with_reducible refine GB.out.mono ?_); rintro e w1 ⟨rfl, rfl⟩))
          go_roundw
          case rel => exact ⟨k + 1, by omega, by go_num, HN.out, by trivial⟩
          case measure => simp [Go.RowKit.intOf] <;> omega
        · cases t2
          · have HN := Lib.hid (hno rfl)
            clear hnx hno hfr
            go_wp2_with (first
              | (go_at_call 32; (with_reducible refine GA.out.mono ?_); rintro e w1 ⟨rfl, rfl⟩)
              | (go_at_call 32; (with_reducible refine GB.out.mono ?_); rintro e w1 ⟨rfl, rfl⟩))
            go_ret
            exact ⟨ret_b HN.out.symm, rfl⟩
          · have HN := Lib.hid hnx
            clear hnx hno hfr
            go_wp2_with (first
              | (go_at_call 32; (with_reducible refine GA.out.mono ?_); rintro e w1 ⟨rfl, rfl⟩)
              | (go_at_call 32; (with_reducible refine GB.out.mono ?_); rintro e w1 ⟨rfl, rfl⟩))
            go_roundw
            case rel => exact ⟨k + 1, by omega, by go_num, HN.out, by trivial⟩
            case measure => simp [Go.RowKit.intOf] <;> omega
      · rw [decide_eq_false hyn] at hnx
        have hy2 : (y == n) = false := beq_noI hyn
        have HN := Lib.hid hnx
        clear hnx hno hfr hyn
        go_wp2
        go_roundw
        case rel => exact ⟨k + 1, by omega, by go_num, by rw [HN.out]; rfl, by trivial⟩
        case measure => simp [Go.RowKit.intOf] <;> omega
    · have hke : k = arcs.length := by omega
      subst hke
      rw [List.take_length] at hfr
      have HIN := Lib.hid hfr
      clear hfr hlt
      go_wp2
      go_ret
      exact ⟨ret_b HIN.out.symm, rfl⟩
end Go.Proofs.YthchkhgimnchcaaGreat
/- Stage 16's program: a graph in memory; has. -/
namespace Go.Proofs.YthchkhgimnchcaaGreat
open Go.RowKit

abbrev grv (a : Option Addr) (n c hb ab : Nat) : Value := .agg #[.slice a n c, .map (some hb), .map (some ab)]
abbrev grc (a : Option Addr) (n c hb ab : Nat) : List Value := [.slice a n c, .map (some hb), .map (some ab)]
/-- what is awaited, as a map -/
def gA (nodes : List Int) (A : Int → Nat) (n : Int) : Option Int := if n ∈ nodes then some (A n : Int) else none
theorem gA_some {nodes : List Int} {A : Int → Nat} {n : Int} : (gA nodes A n).isSome = inL nodes n := by
  unfold gA
  by_cases h : n ∈ nodes
  · rw [if_pos h, inL_iff.2 h]; rfl
  · rw [if_neg h, inL_not.2 h]; rfl
theorem gA_getD {nodes : List Int} {A : Int → Nat} {n : Int} (h : n ∈ nodes) : (gA nodes A n).getD 0 = (A n : Int) := by
  unfold gA
  rw [if_pos h]; rfl
theorem gA_upd {nodes : List Int} {A A' : Int → Nat} {h : Int} {k : Nat} (hn : h ∈ nodes) (hA : ∀ n, A' n = if n = h then k else A n) : updG (gA nodes A) h (some (k : Int)) = gA nodes A' := by
  funext n
  unfold updG gA
  rw [hA]
  by_cases e : n = h
  · rw [if_pos e, if_pos (e ▸ hn), if_pos e]
  · rw [if_neg e, if_neg e]
/-- nodes, and to which nodes arrows lead from each: all of R -/
structure GrAt (R : Nat → Prop) (w : World) (vn : Value) (hb hm : Nat) (gh : Int → Option Hd) (nodes : List Int) (H : Int → List Int) : Prop where
  row : IntsAt w vn nodes
  map : MapH w hb hm gh
  rows : ∀ n, I64 n → IntsAt w (hat gh n) (H n)
  rn : 0 < nodes.length → ∀ g, vn.ownBlock = some g → R g
  rh : R hb
  rr : ∀ n, I64 n → 0 < (H n).length → ∀ g, (hat gh n).ownBlock = some g → R g
section
variable {R : Nat → Prop} {w w' : World} {vn : Value} {hb hm : Nat} {gh : Int → Option Hd} {nodes : List Int} {H : Int → List Int}
theorem GrAt.out (h : GrAt R w vn hb hm gh nodes H) (hz : w.heap.size ≤ w'.heap.size) (he : ∀ k, R k → w'.heap[k]? = w.heap[k]?) : GrAt R w' vn hb hm gh nodes H :=
  ⟨(RowsAt.same h.row.rows hz fun h0 g hg => he g (h.rn h0 g hg)).ints, h.map.same (he hb h.rh), fun n hn => (RowsAt.same (h.rows n hn).rows hz fun h0 g hg => he g (h.rr n hn h0 g hg)).ints, h.rn, h.rh, h.rr⟩
theorem GrAt.kept (h : GrAt R w vn hb hm gh nodes H) (hw : Below w.heap.size w w') : GrAt R w' vn hb hm gh nodes H :=
  ⟨h.row.below hw, h.map.kept hw, fun n hn => (h.rows n hn).below hw, h.rn, h.rh, h.rr⟩
theorem GrAt.mono {R' : Nat → Prop} (h : GrAt R w vn hb hm gh nodes H) (hs : ∀ k, R k → R' k) : GrAt R' w vn hb hm gh nodes H :=
  ⟨h.row, h.map, h.rows, fun h0 g hg => hs g (h.rn h0 g hg), hs _ h.rh, fun n hn h0 g hg => hs g (h.rr n hn h0 g hg)⟩
end

set_option maxHeartbeats 1000000 in
theorem gHas_any (a : Option Addr) (k c hb ab m : Nat) (g : Int → Option Int) (n : Int) (w : World) (h : MapI w ab m g) (hn : I64 n) :
    Calls Tryz.prog 106 #[grv a k c hb ab, .int .i64 n] w fun e w' => e = .returned (.bool (g n).isSome) ∧ Below w.heap.size w w' := by
  have hal := (Below.refl w.heap.size w).alloc (Nat.le_refl _) (.cells #[.slice a k c, .map (some hb), .map (some ab)] 133)
  have hX := Blk.new w [.slice a k c, .map (some hb), .map (some ab)] 133
  have e2 := hX.cell 2 rfl
  have HL := Lib.hid ((h.kept hal).look hn)
  have HB := Lib.hid hal
  generalize (g n).getD 0 = x at *
  generalize (g n).isSome = t at *
  have hl := HL.out
  clear h hX hal
  go_enter Tryz.func106, Tryz.ntmps106
  go_wp2
  go_ret
  exact ⟨rfl, HB.out⟩
end Go.Proofs.YthchkhgimnchcaaGreat
