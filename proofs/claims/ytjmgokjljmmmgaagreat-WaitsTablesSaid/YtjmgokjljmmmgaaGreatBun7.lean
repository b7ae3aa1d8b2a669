/- Texts of this proof, joined: AisRefB; AisRefC; FifoLawF; Labels; SatMath; SatA; SatB; SatRef; FifoLawD; LockRefG; AisAsk; AisRefF; AisLoadM. -/
import Derived.Test.YtjmgokjljmmmgaaGreatBun6
import Derived.Deep.AppendLies
import Derived.Deep.DeepCutAuto
import Derived.Test.YtjmgokjljmmmgaaGreatRows
import Derived.WalkKit
import Derived.Deep.LoopGhost
import Derived.WalkSpells
import Derived.WalkLawsBesides
import Derived.Lib.Hide
import Derived.Lib.MinMax
import Derived.Below
import Derived.Deep.QuietTactic
import Derived.BigQuiet
import Derived.Deep.CutBlock
import Derived.Deep.RegionLaw
/- Stage 20: the document's table in memory; a copy of it; Leave. -/
namespace Go.Proofs.YtjmgokjljmmmgaaGreat
open Go.RowKit

/-- a table of the document's, in blocks of G -/
structure DocA (G : Nat → Prop) (w : World) (vl vs : Value) (T : Tb) (Ls : List Lr) (Ss : List Sr) : Prop where
  locks : LocksAt w vl Ls
  seats : SeatsAt w vs Ss
  le : Ls.map lkp = T.lks
  se : Ss.map stp = T.sts
  fl : 0 < Ls.length → ∀ k, vl.ownBlock = some k → G k
  fs : 0 < Ss.length → ∀ k, vs.ownBlock = some k → G k
  el : ∀ x ∈ Ls, 0 < x.wait.length → ∀ k, x.v.ownBlock = some k → G k
  es : ∀ x ∈ Ss, 0 < x.want.length → ∀ k, x.v.ownBlock = some k → G k
  lt : ∀ k, G k → k < w.heap.size
def DocAt (G : Nat → Prop) (w : World) (vl vs : Value) (T : Tb) : Prop := ∃ Ls Ss, DocA G w vl vs T Ls Ss
section
variable {G : Nat → Prop} {w w' : World} {vl vs : Value} {T : Tb} {Ls : List Lr} {Ss : List Sr}
theorem lks_ids (h : Ls.map lkp = T.lks) : idsL Ls = T.ids := by
  have := congrArg (List.map Prod.fst) h
  unfold Tb.lks at this
  rw [List.map_map, List.map_map] at this
  simpa [idsL, Function.comp_def, lkp] using this
theorem sts_toks (h : Ss.map stp = T.sts) : toksS Ss = T.toks := by
  have := congrArg (List.map Prod.fst) h
  unfold Tb.sts at this
  rw [List.map_map, List.map_map] at this
  simpa [toksS, Function.comp_def, stp] using this
theorem lks_len (h : Ls.map lkp = T.lks) : Ls.length = T.ids.length := by rw [← lks_ids h]; simp [idsL]
theorem sts_len (h : Ss.map stp = T.sts) : Ss.length = T.toks.length := by rw [← sts_toks h]; simp [toksS]
theorem lks_at (h : Ls.map lkp = T.lks) (i : Nat) (hi : i < Ls.length) (hi2 : i < T.ids.length) : lkp Ls[i] = (T.ids[i], T.hd T.ids[i], T.wt T.ids[i]) := by
  have : (Ls.map lkp)[i]? = T.lks[i]? := by rw [h]
  unfold Tb.lks at this
  rw [List.getElem?_map, List.getElem?_map, List.getElem?_eq_getElem hi, List.getElem?_eq_getElem hi2] at this
  exact Option.some.inj this
theorem sts_at (h : Ss.map stp = T.sts) (i : Nat) (hi : i < Ss.length) (hi2 : i < T.toks.length) : stp Ss[i] = (T.toks[i], (T.got T.toks[i] : Int), T.want T.toks[i]) := by
  have : (Ss.map stp)[i]? = T.sts[i]? := by rw [h]
  unfold Tb.sts at this
  rw [List.getElem?_map, List.getElem?_map, List.getElem?_eq_getElem hi, List.getElem?_eq_getElem hi2] at this
  exact Option.some.inj this
theorem map_upF {β : Type} {ids : List Int} (hn : ids.Nodup) (f g : Int → β) (i : Nat) (hi : i < ids.length) (hg : ∀ x, x ≠ ids[i] → g x = f x) : (ids.map f).set i (g ids[i]) = ids.map g := by
  refine List.ext_getElem (by simp) fun j h1 h2 => ?_
  simp only [List.length_set, List.length_map] at h1
  rw [List.getElem_set]
  by_cases e : i = j
  · subst e; simp
  · rw [if_neg e, List.getElem_map, List.getElem_map]
    refine (hg _ fun e2 => ?_).symm
    rcases Nat.lt_or_gt_of_ne e with h | h
    · exact List.pairwise_iff_getElem.1 hn i j hi (by omega) h e2.symm
    · exact List.pairwise_iff_getElem.1 hn j i (by omega) hi h e2
/-- one lock is another one -/
theorem lks_set (h : Ls.map lkp = T.lks) (hn : T.ids.Nodup) (i : Nat) (hi : i < T.ids.length) (x : Lr) (T' : Tb) (hT : T'.ids = T.ids) (hx : lkp x = (T.ids[i], T'.hd T.ids[i], T'.wt T.ids[i])) (ho : ∀ a, a ≠ T.ids[i] → T'.hd a = T.hd a ∧ T'.wt a = T.wt a) : (Ls.set i x).map lkp = T'.lks := by
  rw [List.map_set, h, hx]
  unfold Tb.lks
  rw [hT]
  exact map_upF hn (fun id => (id, T.hd id, T.wt id)) (fun id => (id, T'.hd id, T'.wt id)) i hi fun a ha => by simp only [(ho a ha).1, (ho a ha).2]
theorem sts_set (h : Ss.map stp = T.sts) (hn : T.toks.Nodup) (i : Nat) (hi : i < T.toks.length) (x : Sr) (T' : Tb) (hT : T'.toks = T.toks) (hx : stp x = (T.toks[i], (T'.got T.toks[i] : Int), T'.want T.toks[i])) (ho : ∀ a, a ≠ T.toks[i] → T'.got a = T.got a ∧ T'.want a = T.want a) : (Ss.set i x).map stp = T'.sts := by
  rw [List.map_set, h, hx]
  unfold Tb.sts
  rw [hT]
  exact map_upF hn (fun t => (t, (T.got t : Int), T.want t)) (fun t => (t, (T'.got t : Int), T'.want t)) i hi fun a ha => by simp only [(ho a ha).1, (ho a ha).2]
theorem WkAt.doc {B : Nat} (h : WkAt w B G vl vs Ls Ss) (hG : ∀ k, G k → k < w.heap.size) (le : Ls.map lkp = T.lks) (se : Ss.map stp = T.sts) : DocAt (fun k => G k ∨ (B ≤ k ∧ k < w.heap.size)) w vl vs T :=
  ⟨Ls, Ss, h.locks, h.seats, le, se, fun h0 k hk => .inr ⟨(h.lo (List.length_pos_iff.1 h0)).2 k hk, h.lr.lt h0 k hk⟩, fun h0 k hk => .inr ⟨(h.so (List.length_pos_iff.1 h0)).2 k hk, h.sr.lt h0 k hk⟩,
    fun x hx h0 k hk => ((h.el x hx).2 h0 k hk).1.imp (fun h => h) fun h2 => ⟨h2, (h.el x hx).1.lt h0 k hk⟩, fun x hx h0 k hk => ((h.es x hx).2 h0 k hk).1.imp (fun h => h) fun h2 => ⟨h2, (h.es x hx).1.lt h0 k hk⟩, fun k hk => hk.elim (hG k) fun h => h.2⟩
theorem DocA.same (h : DocA G w vl vs T Ls Ss) (hz : w.heap.size ≤ w'.heap.size) (he : ∀ k, G k → w'.heap[k]? = w.heap[k]?) : DocA G w' vl vs T Ls Ss :=
  ⟨⟨h.locks.rows.same hz fun h0 g hg => he g (h.fl h0 g hg), fun x hx => (h.locks.each x hx).same hz fun h0 k hk => he k (h.el x hx h0 k hk)⟩, ⟨h.seats.rows.same hz fun h0 g hg => he g (h.fs h0 g hg), fun x hx => (h.seats.each x hx).same hz fun h0 k hk => he k (h.es x hx h0 k hk)⟩, h.le, h.se, h.fl, h.fs, h.el, h.es, fun k hk => Nat.lt_of_lt_of_le (h.lt k hk) hz⟩
theorem DocA.kept (h : DocA G w vl vs T Ls Ss) (hb : Below w.heap.size w w') : DocA G w' vl vs T Ls Ss := h.same hb.size fun k hk => hb.block k (h.lt k hk)
theorem DocAt.same (h : DocAt G w vl vs T) (hz : w.heap.size ≤ w'.heap.size) (he : ∀ k, G k → w'.heap[k]? = w.heap[k]?) : DocAt G w' vl vs T := by
  obtain ⟨Ls, Ss, h⟩ := h
  exact ⟨Ls, Ss, h.same hz he⟩
theorem DocAt.kept (h : DocAt G w vl vs T) (hb : Below w.heap.size w w') : DocAt G w' vl vs T := by
  obtain ⟨Ls, Ss, h⟩ := h
  exact ⟨Ls, Ss, h.kept hb⟩
theorem DocAt.form (h : DocAt G w vl vs T) : ∃ al cl as' cs', vl = .slice al T.ids.length cl ∧ vs = .slice as' T.toks.length cs' := by
  obtain ⟨Ls, Ss, h⟩ := h
  obtain ⟨a, c, e1⟩ := RowsAt.form h.locks.rows
  obtain ⟨b, d, e2⟩ := RowsAt.form h.seats.rows
  rw [lks_len h.le] at e1
  rw [sts_len h.se] at e2
  exact ⟨a, c, b, d, e1, e2⟩
end

/-! ### One thing behind others of one's own -/
theorem rows_one {α : Type} {cs : α → List Value} {K : Nat} (w : World) (x : α) (e : TypeId) : RowsAt (w.alloc (.cells (cs x).toArray e)) K cs (.slice (some ⟨w.heap.size, 0, none⟩) 1 1) [x] :=
  ⟨some ⟨w.heap.size, 0, none⟩, 1, rfl, Nat.le_refl _, fun _ => ⟨w.heap.size, 0, rfl, by simp, fun j y hj i u hu => by
    have hj0 : j = 0 := by
      have := (List.getElem?_eq_some_iff.1 hj).1
      simp at this
      exact this
    subst hj0
    simp at hj
    subst hj
    have := (Blk.new w (cs x) e).cell i hu
    simpa using this⟩⟩
theorem appK {α : Type} {cs : α → List Value} {K : Nat} (hlen : ∀ x, (cs x).length = K) (hK0 : 0 < K) (hone : ∀ x, ∀ u ∈ cs x, u.oneCell' = true) (e ts : TypeId) (i : TypeInfo) (z : Value) (bytes : Nat) (ht : Tryz.prog.underlying ts = some (.slice e)) (hi : Tryz.prog.info? e = some i) (hz : i.zero = some z) (hsize : i.size = K) (hby : i.bytes = bytes) (hzs : z.cells.size = K) (hb : bytes ≤ 1000)
    {ops : Array Oper} {rest : List Oper} {o : Oper} {a : Act} {Q : Exit → Act → World → Prop} {B : Nat} {w : World} {x : α} {v : Value} {l : List α} (hown : OwnR w B e K cs v l) (hB : B ≤ w.heap.size) (hl : l.length ≤ 1000000)
    (hgd : o.guard = none) (s y : Operand) (ho : o.op = .call { callee := .builtin .append, args := #[s, y], argTypes := #[ts, ts] }) (hs : a.eval s = v) (hx : a.eval y = .slice (some ⟨w.heap.size, 0, none⟩) 1 1)
    (hK : ∀ v' w', OwnR w' B e K cs v' (l ++ [x]) → Below B w w' → Only (fun k => v.ownBlock = some k) w w' → (∀ k, v'.ownBlock = some k → v.ownBlock = some k ∨ w.heap.size ≤ k) → wpList Tryz.prog ops Q rest (a.put o.dst v') w') : wpList Tryz.prog ops Q (o :: rest) a (w.alloc (.cells (cs x).toArray e)) := by
  have ha := (Below.refl B w).alloc hB (.cells (cs x).toArray e)
  have h1 := OwnR.alloc hown (.cells (cs x).toArray e)
  have h2 : B ≤ (w.alloc (.cells (cs x).toArray e)).heap.size := Nat.le_trans hB ha.size
  refine wpList_append_lies _ hgd s y ts ho B e i z K bytes ht hi hz hsize hby hzs hK0 v l.length (flats cs l) hs h1 ⟨w.heap.size, 0, none⟩ 1 1 (cs x) hx (by rw [hlen]; omega) (World.news_of_block (cs := (cs x).toArray) (t := e) (fr := (0, 0)) (heap_alloc_new w _)) (hone x) (by omega) (by unfold maxLen; omega) (by
    have h3 : (l.length + 1) * bytes ≤ 1000001 * 1000 := Nat.mul_le_mul (by omega) hb
    omega) h2 (w.heap.size + 1) (by simp) fun g cap w' k1 k2 k3 _ => ?_
  exact hK _ w' (OwnR.snoc k1 rfl rfl) (OwnR.below h1 ha h2 k2) ((Only.of_below ((Below.refl w.heap.size w).alloc (Nat.le_refl _) _)).trans (Only.grown k2 fun k hk => hk)) fun k hk => by
    simp [Value.ownBlock] at hk
    subst hk
    exact k3.imp (fun h => h) fun h => by omega
def csG (p : Int × Int) : List Value := [.int .i64 p.1, .int .i64 p.2]
theorem csG_len (p : Int × Int) : (csG p).length = 2 := rfl
theorem csG_one (p : Int × Int) : ∀ u ∈ csG p, u.oneCell' = true := by
  intro u hu
  simp [csG] at hu
  rcases hu with rfl | rfl <;> rfl
/-- what is left of the seats -/
def dropS (l : List Sr) (t : Int) : List Sr := l.filter fun x => decide (x.token ≠ t)
theorem dropS_next (l : List Sr) (t : Int) (i : Nat) (h : i < l.length) : dropS (l.take (i + 1)) t = dropS (l.take i) t ++ (if l[i].token ≠ t then [l[i]] else []) := by
  unfold dropS
  rw [List.take_succ_eq_append_getElem h, List.filter_append]
  congr 1
  by_cases e : l[i].token = t <;> simp [e]
theorem dropS_le (l : List Sr) (t : Int) : (dropS l t).length ≤ l.length := List.length_filter_le _ _
theorem dropS_all {l : List Sr} {t : Int} (h : t ∉ toksS l) : dropS l t = l := List.filter_eq_self.2 fun x hx => by
  simp
  rintro rfl
  exact h (List.mem_map.2 ⟨x, hx, rfl⟩)
theorem dropS_lt {l : List Sr} {t : Int} (h : t ∈ toksS l) : (dropS l t).length < l.length := by
  obtain ⟨x, hx, rfl⟩ := List.mem_map.1 h
  have h1 : (dropS l x.token).length ≠ l.length := fun e => by
    have := List.length_filter_eq_length_iff.1 e x hx
    simp at this
  have := dropS_le l x.token
  omega
theorem dropS_map {l : List Sr} {T : Tb} (h : l.map stp = T.sts) (t : Int) (T' : Tb) (h1 : T'.toks = T.toks.filter fun x => decide (x ≠ t)) (h2 : T'.got = T.got) (h3 : T'.want = T.want) : (dropS l t).map stp = T'.sts := by
  unfold Tb.sts
  rw [h1, h2, h3]
  have e : (dropS l t).map stp = (l.map stp).filter fun p => decide (p.1 ≠ t) := by
    unfold dropS
    rw [List.filter_map]
    rfl
  rw [e, h]
  unfold Tb.sts
  rw [List.filter_map]
  rfl
end Go.Proofs.YtjmgokjljmmmgaaGreat
/- Stage 20: the document's Leave. -/
namespace Go.Proofs.YtjmgokjljmmmgaaGreat
open Go.RowKit

/-- a box that holds a table, and one for the answer behind it -/
structure Two20 (W : World) (vl vs : Value) (w : World) : Prop where
  box : Blk w W.heap.size [vl, vs]
  ans : Blk w (W.heap.size + 1) [.slice none 0 0, .slice none 0 0]
  below : Below W.heap.size W w
section
variable {W w w' : World} {vl vs v1 v2 : Value}
theorem Two20.kept (T : Two20 W vl vs w) (hb : Below w.heap.size w w') : Two20 W vl vs w' := ⟨T.box.kept hb, T.ans.kept hb, T.below.trans (hb.mono T.below.size)⟩
/-- what lies from B on has changed -/
theorem Two20.only {F : Nat → Prop} (T : Two20 W vl vs w) (ho : Only F w w') (hF : ∀ k, F k → W.heap.size + 2 ≤ k) : Two20 W vl vs w' :=
  ⟨T.box.same (ho.block _ (by have := Blk.lt T.box; omega) fun h => by have := hF _ h; omega), T.ans.same (ho.block _ (by have := Blk.lt T.ans; omega) fun h => by have := hF _ h; omega), T.below.trans (ho.below (fun k hk => by have := hF k hk; omega) T.below.size)⟩
/-- the box is written -/
theorem Two20.turn (T : Two20 W vl vs w) (v1 v2 : Value) : Two20 W v1 v2 ((w.setCell ⟨W.heap.size, 0, none⟩ v1).setCell ⟨W.heap.size, 1, none⟩ v2) :=
  ⟨(T.box.set 0 v1).set 1 v2, (T.ans.away _ _ (by simp)).away _ _ (by simp), (T.below.setCell (p := ⟨W.heap.size, 0, none⟩) (by simp) _).setCell (p := ⟨W.heap.size, 1, none⟩) (by simp) _⟩
theorem Two20.seats (T : Two20 W vl vs w) (v2 : Value) : Two20 W vl v2 (w.setCell ⟨W.heap.size, 1, none⟩ v2) :=
  ⟨T.box.set 1 v2, T.ans.away _ _ (by simp), T.below.setCell (p := ⟨W.heap.size, 1, none⟩) (by simp) _⟩
/-- the answer is written -/
theorem Two20.put (T : Two20 W vl vs w) (v1 v2 : Value) : Blk ((w.setCell ⟨W.heap.size + 1, 0, none⟩ v1).setCell ⟨W.heap.size + 1, 1, none⟩ v2) (W.heap.size + 1) [v1, v2] ∧ Below W.heap.size W ((w.setCell ⟨W.heap.size + 1, 0, none⟩ v1).setCell ⟨W.heap.size + 1, 1, none⟩ v2) :=
  ⟨(T.ans.set 0 v1).set 1 v2, (T.below.setCell (p := ⟨W.heap.size + 1, 0, none⟩) (by simp) _).setCell (p := ⟨W.heap.size + 1, 1, none⟩) (by simp) _⟩
end
theorem size_setCell (w : World) (p : Addr) (u : Value) : (w.setCell p u).heap.size = w.heap.size := by simp [World.setCell]

/-- the first j locks have been left -/
def Tb.lvg (T : Tb) (t : Int) (j : Nat) : Tb := { T with toks := T.toks.filter (fun x => decide (x ≠ t)), hd := fun id => if id ∈ T.ids.take j then (leaveL (T.hd id) (T.wt id) t).1 else T.hd id, wt := fun id => if id ∈ T.ids.take j then (leaveL (T.hd id) (T.wt id) t).2.1 else T.wt id }
theorem not_take {l : List Int} (hn : l.Nodup) (j : Nat) (hj : j < l.length) : l[j] ∉ l.take j := fun h => by
  obtain ⟨i, hi, e⟩ := List.getElem_of_mem h
  rw [List.length_take] at hi
  rw [List.getElem_take] at e
  exact List.pairwise_iff_getElem.1 hn i j (by omega) hj (by omega) e
theorem lvg_at (T : Tb) (hn : T.ids.Nodup) (t : Int) (j : Nat) (hj : j < T.ids.length) : (T.lvg t j).hd T.ids[j] = T.hd T.ids[j] ∧ (T.lvg t j).wt T.ids[j] = T.wt T.ids[j] := ⟨if_neg (not_take hn j hj), if_neg (not_take hn j hj)⟩
theorem lvg_next (T : Tb) (t : Int) (j : Nat) (hj : j < T.ids.length) : (T.lvg t (j + 1)).hd T.ids[j] = (leaveL (T.hd T.ids[j]) (T.wt T.ids[j]) t).1 ∧ (T.lvg t (j + 1)).wt T.ids[j] = (leaveL (T.hd T.ids[j]) (T.wt T.ids[j]) t).2.1 := by
  have h : T.ids[j] ∈ T.ids.take (j + 1) := by rw [List.take_succ_eq_append_getElem hj]; exact List.mem_append_right _ (List.mem_singleton.2 rfl)
  exact ⟨if_pos h, if_pos h⟩
theorem lvg_other (T : Tb) (t : Int) (j : Nat) (hj : j < T.ids.length) (a : Int) (ha : a ≠ T.ids[j]) : (T.lvg t (j + 1)).hd a = (T.lvg t j).hd a ∧ (T.lvg t (j + 1)).wt a = (T.lvg t j).wt a := by
  have h : a ∈ T.ids.take (j + 1) ↔ a ∈ T.ids.take j := by rw [List.take_succ_eq_append_getElem hj, List.mem_append, List.mem_singleton]; exact ⟨fun h => h.resolve_right ha, .inl⟩
  simp only [Tb.lvg, h, and_self]
theorem lvg_zero (T : Tb) (t : Int) : (T.lvg t 0).lks = T.lks := by simp [Tb.lks, Tb.lvg]
theorem lvg_end {T : Tb} {t : Int} (ht : t ∈ T.toks) : (T.lvg t T.ids.length).lks = (T.leave t).lks := by
  unfold Tb.leave
  rw [if_pos ht]
  unfold Tb.lks
  refine List.map_congr_left fun a ha => ?_
  have h : a ∈ T.ids.take T.ids.length := by rw [List.take_length]; exact ha
  simp only [Tb.lvg, if_pos h]

end Go.Proofs.YtjmgokjljmmmgaaGreat
/- The law FifoFair, over the program's contracts as one structure. -/
namespace Go.Proofs.YtjmgokjljmmmgaaGreat
open Go.RowKit

theorem plc_cons (z : Int) (t : List Int) (x : Int) : plcL (z :: t) x = if z = x then 0 else if x ∈ t then plcL t x + 1 else -1 := by
  unfold plcL
  by_cases h : z = x
  · rw [if_pos h, if_pos (by rw [h]; exact List.mem_cons_self), h, List.idxOf_cons_self]
    rfl
  · rw [if_neg h]
    by_cases h2 : x ∈ t
    · rw [if_pos h2, if_pos (List.mem_cons_of_mem _ h2), if_pos h2, List.idxOf_cons, show (z == x) = false from beq_noI h]
      simp
    · rw [if_neg h2, if_neg (fun h3 => by rcases List.mem_cons.1 h3 with e | e; exact h e.symm; exact h2 e)]
/-- nobody falls back; who comes is the last one -/
def FairI (L L' : List Int) (x : Int) : Prop := (0 ≤ plcL L x → plcL L' x ≤ plcL L x) ∧ (plcL L x < 0 → 0 ≤ plcL L' x → plcL L' x = (L'.length : Int) - 1)
theorem fair_same (L : List Int) (x : Int) : FairI L L x := ⟨fun _ => Int.le_refl _, fun h1 h2 => by omega⟩
theorem plc_append {L : List Int} {x : Int} (h : x ∈ L) (y : Int) : plcL (L ++ [y]) x = plcL L x := by
  unfold plcL
  rw [if_pos h, if_pos (List.mem_append_left _ h), List.idxOf_append, if_pos h]
theorem plc_last {L : List Int} {x : Int} (h : x ∉ L) : plcL (L ++ [x]) x = (L.length : Int) := by
  unfold plcL
  rw [if_pos (by simp), List.idxOf_append, if_neg h, List.idxOf_cons_self]
  simp
theorem fair_put (L : List Int) (room y x : Int) : FairI L (putF L room y).1 x := by
  unfold putF
  split
  · exact fair_same L x
  · split
    · exact fair_same L x
    · by_cases h : x ∈ L
      · refine ⟨fun _ => by rw [plc_append h]; exact Int.le_refl _, fun h1 => ?_⟩
        have := plc_ge.2 h
        omega
      · refine ⟨fun h1 => absurd (plc_ge.1 h1) h, fun _ h2 => ?_⟩
        have hm := plc_ge.1 h2
        have hx : x = y := by
          rcases List.mem_append.1 hm with h3 | h3
          · exact absurd h3 h
          · exact List.mem_singleton.1 h3
        subst hx
        show plcL (L ++ [x]) x = ((L ++ [x]).length : Int) - 1
        rw [plc_last h, List.length_append]
        simp
theorem put_nodup {L : List Int} (h : L.Nodup) (room y : Int) : (putF L room y).1.Nodup := by
  unfold putF
  split
  · exact h
  · rename_i hn
    split
    · exact h
    · exact List.nodup_append.2 ⟨h, by simp, fun a ha b hb e => hn (by rw [List.mem_singleton.1 hb] at e; exact e ▸ ha)⟩
theorem fair_take {L : List Int} (h : L.Nodup) (x : Int) : FairI L (L.drop 1) x := by
  cases L with
  | nil => exact fair_same [] x
  | cons z t =>
    have hz := List.nodup_cons.1 h
    show FairI (z :: t) t x
    unfold FairI
    rw [plc_cons]
    by_cases e : z = x
    · subst e
      rw [if_pos rfl, plc_none hz.1]
      exact ⟨fun _ => by omega, fun h => by omega⟩
    · rw [if_neg e]
      by_cases h2 : x ∈ t
      · rw [if_pos h2]
        have := plc_ge.2 h2
        exact ⟨fun _ => by omega, fun h => by omega⟩
      · rw [if_neg h2, plc_none h2]
        exact ⟨fun h => by omega, fun _ h => by omega⟩
theorem take_head (z : Int) (t : List Int) (x : Int) : (z == x) = (plcL (z :: t) x == 0) := by
  rw [plc_cons]
  by_cases e : z = x
  · rw [if_pos e, e]; simp
  · rw [if_neg e]
    rw [beq_noI e]
    refine (beq_noI ?_).symm
    by_cases h2 : x ∈ t
    · rw [if_pos h2]
      have := plc_ge.2 h2
      omega
    · rw [if_neg h2]
      omega
theorem fair_drop (x y : Int) : ∀ L : List Int, FairI L (dropF L y) x := fun L => by
  by_cases h : x ∈ L
  · refine ⟨fun _ => ?_, fun h1 => by have := plc_ge.2 h; omega⟩
    induction L with
    | nil => cases h
    | cons z t ih =>
      have e1 : dropF (z :: t) y = if z = y then dropF t y else z :: dropF t y := by
        unfold dropF
        by_cases e : z = y <;> simp [e]
      rw [e1, plc_cons z t x]
      by_cases ez : z = y
      · rw [if_pos ez]
        by_cases ex : z = x
        · rw [if_pos ex]
          have : x ∉ dropF t y := fun hm => ((dropF_mem _ _ _).1 hm).2 (by rw [← ex, ez])
          rw [plc_none this]
          omega
        · have hxt : x ∈ t := by
            rcases List.mem_cons.1 h with e | e
            · exact absurd e.symm ex
            · exact e
          rw [if_neg ex, if_pos hxt]
          have := ih hxt (plc_ge.2 hxt)
          omega
      · rw [if_neg ez, plc_cons]
        by_cases ex : z = x
        · rw [if_pos ex, if_pos ex]
          exact Int.le_refl _
        · have hxt : x ∈ t := by
            rcases List.mem_cons.1 h with e | e
            · exact absurd e.symm ex
            · exact e
          rw [if_neg ex, if_neg ex, if_pos hxt]
          have := ih hxt (plc_ge.2 hxt)
          have h3 := plc_ge.2 hxt
          split <;> omega
  · have hn : x ∉ dropF L y := fun hm => h ((dropF_mem _ _ _).1 hm).1
    rw [FairI, plc_none h, plc_none hn]
    exact ⟨fun h => by omega, fun _ h => by omega⟩

/-- an act: its kind, its number -/
structure A18 where
  k : Int
  x : Int
deriving Inhabited
def csA18 (a : A18) : List Value := [.int .i64 a.k, .int .i64 a.x]
theorem csA18_len (a : A18) : (csA18 a).length = 2 := rfl

end Go.Proofs.YtjmgokjljmmmgaaGreat
/- A scope with one label to which the run jumps back: what holds at the label bears a number that every pass lowers. -/
namespace Go.Proofs.YtjmgokjljmmmgaaGreat
open Go.RowKit

theorem wp_of_skip {P : Program} {B rest : Code} (h : rest = .seq .skip B) (Q : Exit → Act → World → Prop) (a : Act) (w : World) (hB : B.wp P Q a w) : rest.wp P Q a w := by
  subst h
  exact wp_seq (wp_skip hB)

/-- The label's rest is walked once ('pass'); the way to the label once ('first'). -/
theorem wp_scope_goto {P : Program} {a : Act} {w : World} {Q : Exit → Act → World → Prop} {c rest B : Code} (l : Nat) (I : Nat → Act → World → Prop) (hf : findLabel c l = some rest) (hB : rest = .seq .skip B)
    (pass : ∀ n a w, I n a w → ∀ K : Act → World → Prop, (∀ n' a' w', n' < n → I n' a' w' → K a' w') → B.wp P (Exit.jump l K Q) a w)
    (first : ∀ K : Act → World → Prop, (∀ n a w, I n a w → B.wp P (Exit.jump l K Q) a w) → c.wp P (Exit.jump l K Q) a w) : (Code.scope c).wp P Q a w := by
  refine wp_scope_jumps l (fun a w => ∃ n, I n a w) (fun a w => leastOf (fun n => I n a w)) hf ?_ ?_
  · exact first _ fun n a w h => pass n a w h _ fun n' a' w' _ h' => ⟨n', h'⟩
  · intro a w hI
    have hs := leastOf_spec hI
    refine wp_of_skip hB _ _ _ (pass _ a w hs.1 _ ?_)
    intro n' a' w' hlt h'
    exact ⟨⟨n', h'⟩, Nat.lt_of_le_of_lt ((leastOf_spec ⟨n', h'⟩).2 n' h') hlt⟩

end Go.Proofs.YtjmgokjljmmmgaaGreat
/- Sums and products that stop at a greatest number: plain mathematics. -/
namespace Go.Proofs.YtjmgokjljmmmgaaGreat

def isum : List Int → Int
  | [] => 0
  | a :: l => max a 0 + isum l
def iprod : List Int → Int
  | [] => 1
  | a :: l => max a 0 * iprod l
def sadd (m : Int) (l : List Int) : Int := min m (isum l)
def smul (m : Int) (l : List Int) : Int := min m (iprod l)
def addTo (m s n : Int) : Int := if m - s < n then m else s + n
def mulTo (m p n : Int) : Int := if 0 < n ∧ m / n < p then m else p * n
def iover (a b : Int) : Int := if 0 < max a 0 % max b 1 then max a 0 / max b 1 + 1 else max a 0 / max b 1
def iless (a b : Int) : Int := max (max a 0 - max b 0) 0
def iclip (n a b : Int) : Int := if n < a then a else min n b

theorem isum_nonneg (l : List Int) : 0 ≤ isum l := by
  induction l with
  | nil => simp [isum]
  | cons a l ih => simp only [isum]; omega
theorem iprod_nonneg (l : List Int) : 0 ≤ iprod l := by
  induction l with
  | nil => simp [iprod]
  | cons a l ih => simp only [iprod]; exact Int.mul_nonneg (by omega) ih
theorem isum_snoc (l : List Int) (a : Int) : isum (l ++ [a]) = isum l + max a 0 := by
  induction l with
  | nil => simp [isum]
  | cons b l ih => simp only [List.cons_append, isum, ih]; omega
theorem iprod_snoc (l : List Int) (a : Int) : iprod (l ++ [a]) = iprod l * max a 0 := by
  induction l with
  | nil => simp [iprod]
  | cons b l ih => simp only [List.cons_append, iprod, ih, Int.mul_assoc]

theorem min_mul_min {m p z : Int} (hm : 0 ≤ m) (hp : 0 ≤ p) (hz : 0 ≤ z) : min m (min m p * z) = min m (p * z) := by
  by_cases h : p ≤ m
  · rw [show min m p = p by omega]
  · rw [show min m p = m by omega]
    by_cases h0 : z = 0
    · subst h0; simp
    · have h1 : m * 1 ≤ m * z := Int.mul_le_mul_of_nonneg_left (by omega) hm
      have h2 : p * 1 ≤ p * z := Int.mul_le_mul_of_nonneg_left (by omega) hp
      omega

theorem sadd_nil {m : Int} (hm : 0 ≤ m) : sadd m [] = 0 := by simp only [sadd, isum]; omega
theorem smul_nil (m : Int) : smul m [] = min 1 m := by simp only [smul, iprod]; omega
theorem sadd_bd {m : Int} (hm : 0 ≤ m) (l : List Int) : 0 ≤ sadd m l ∧ sadd m l ≤ m := by
  have := isum_nonneg l
  unfold sadd; omega
theorem smul_bd {m : Int} (hm : 0 ≤ m) (l : List Int) : 0 ≤ smul m l ∧ smul m l ≤ m := by
  have := iprod_nonneg l
  unfold smul; omega
theorem sadd_snoc {m : Int} (_hm : 0 ≤ m) (l : List Int) (a : Int) : sadd m (l ++ [a]) = addTo m (sadd m l) (max a 0) := by
  have h := isum_nonneg l
  unfold sadd addTo
  rw [isum_snoc]
  split <;> omega
theorem mulTo_min {m p n : Int} (hm : 0 ≤ m) (_hp : 0 ≤ p) (_hpm : p ≤ m) (hn : 0 ≤ n) : mulTo m p n = min m (p * n) := by
  unfold mulTo
  by_cases h0 : n = 0
  · subst h0; simp; omega
  · have hn' : 0 < n := by omega
    by_cases h : m / n < p
    · rw [if_pos ⟨hn', h⟩]
      have := (Int.ediv_lt_iff_lt_mul hn').1 h
      omega
    · rw [if_neg (fun c => h c.2)]
      have := (Int.le_ediv_iff_mul_le hn').1 (by omega : p ≤ m / n)
      omega
theorem smul_snoc {m : Int} (hm : 0 ≤ m) (l : List Int) (a : Int) : smul m (l ++ [a]) = mulTo m (smul m l) (max a 0) := by
  have h := iprod_nonneg l
  have hb := smul_bd hm l
  rw [mulTo_min hm hb.1 hb.2 (by omega)]
  unfold smul
  rw [iprod_snoc, min_mul_min hm h (by omega)]

theorem sadd_turn (m a b c : Int) : sadd m [c, b, a] = sadd m [a, b, c] := by simp only [sadd, isum]; omega
theorem sadd_left {m : Int} (_hm : 0 ≤ m) (a b c : Int) : sadd m [sadd m [a, b], c] = sadd m [a, b, c] := by simp only [sadd, isum]; omega
theorem sadd_right {m : Int} (_hm : 0 ≤ m) (a b c : Int) : sadd m [a, sadd m [b, c]] = sadd m [a, b, c] := by simp only [sadd, isum]; omega

theorem iprod3 (a b c : Int) : iprod [a, b, c] = max a 0 * (max b 0 * max c 0) := by simp [iprod]
theorem iprod2 (a b : Int) : iprod [a, b] = max a 0 * max b 0 := by simp [iprod]
theorem smul_turn (m a b c : Int) : smul m [c, a, b] = smul m [a, b, c] := by
  unfold smul
  rw [iprod3, iprod3, ← Int.mul_assoc, ← Int.mul_assoc, Int.mul_comm (max c 0), Int.mul_assoc, Int.mul_comm (max c 0), ← Int.mul_assoc]
theorem smul_left {m : Int} (hm : 0 ≤ m) (a b c : Int) : smul m [smul m [a, b], c] = smul m [a, b, c] := by
  have hb := smul_bd hm [a, b]
  have hp : 0 ≤ max a 0 * max b 0 := Int.mul_nonneg (by omega) (by omega)
  show min m (iprod [smul m [a, b], c]) = min m (iprod [a, b, c])
  rw [iprod2, iprod3, show max (smul m [a, b]) 0 = smul m [a, b] by omega, ← Int.mul_assoc]
  show min m (min m (iprod [a, b]) * max c 0) = _
  rw [iprod2, min_mul_min hm hp (by omega)]
theorem smul_right {m : Int} (hm : 0 ≤ m) (a b c : Int) : smul m [a, smul m [b, c]] = smul m [a, b, c] := by
  have h1 : ∀ x y, smul m [x, y] = smul m [y, x] := by intro x y; unfold smul; rw [iprod2, iprod2, Int.mul_comm]
  rw [h1 a, smul_left hm, ← smul_turn, ← smul_turn]
theorem smul_sum {m : Int} (hm : 0 ≤ m) (a b c : Int) : smul m [a, sadd m [b, c]] = sadd m [smul m [a, b], smul m [a, c]] := by
  have h1 : smul m [a, sadd m [b, c]] = min m (min m (max b 0 + max c 0) * max a 0) := by
    have e : isum [b, c] = max b 0 + max c 0 := by simp only [isum]; omega
    unfold smul
    rw [iprod2, Int.mul_comm]
    congr 2
    unfold sadd
    rw [e]; omega
  have hp : 0 ≤ max b 0 * max a 0 := Int.mul_nonneg (by omega) (by omega)
  have hq : 0 ≤ max c 0 * max a 0 := Int.mul_nonneg (by omega) (by omega)
  have e1 : smul m [a, b] = min m (max b 0 * max a 0) := by unfold smul; rw [iprod2, Int.mul_comm]
  have e2 : smul m [a, c] = min m (max c 0 * max a 0) := by unfold smul; rw [iprod2, Int.mul_comm]
  rw [h1, min_mul_min hm (by omega) (by omega), Int.add_mul, e1, e2]
  simp only [sadd, isum]
  omega
theorem sadd_grows {m a b c : Int} (_hm : 0 ≤ m) (h : a ≤ b) : sadd m [a, c] ≤ sadd m [b, c] := by simp only [sadd, isum]; omega
theorem smul_grows {m a b c : Int} (_hm : 0 ≤ m) (h : a ≤ b) : smul m [a, c] ≤ smul m [b, c] := by
  unfold smul
  rw [iprod2, iprod2]
  have := Int.mul_le_mul_of_nonneg_right (show max a 0 ≤ max b 0 by omega) (show 0 ≤ max c 0 by omega)
  omega
theorem iless_grows {a b c : Int} (h : a ≤ b) : iless a c ≤ iless b c := by unfold iless; omega

theorem iover_bd (a b : Int) : 0 ≤ iover a b ∧ iover a b ≤ max a 0 := by
  unfold iover
  have hx : 0 ≤ max a 0 := by omega
  have hy : 0 < max b 1 := by omega
  generalize max a 0 = x at hx ⊢
  generalize max b 1 = y at hy ⊢
  have h1 := Int.ediv_nonneg hx (Int.le_of_lt hy)
  have h2 := Int.mul_ediv_add_emod x y
  have h3 := Int.emod_nonneg x (show y ≠ 0 by omega)
  have h4 : (x / y) * 1 ≤ y * (x / y) := by rw [Int.mul_comm y]; exact Int.mul_le_mul_of_nonneg_left (by omega) h1
  split <;> omega
theorem iover_enough {a b : Int} (ha : a ≤ 9223372036854775807) : max a 0 ≤ smul 9223372036854775807 [iover a b, max b 1] := by
  have hb := iover_bd a b
  unfold smul
  rw [iprod2]
  unfold iover at hb ⊢
  have hx : 0 ≤ max a 0 := by omega
  have hy : 0 < max b 1 := by omega
  have ha' : max a 0 ≤ 9223372036854775807 := by omega
  rw [show max (max b 1) 0 = max b 1 by omega]
  generalize max a 0 = x at *
  generalize max b 1 = y at *
  have h2 := Int.mul_ediv_add_emod x y
  have h3 := Int.emod_nonneg x (show y ≠ 0 by omega)
  have h4 := Int.emod_lt_of_pos x hy
  have h5 : y * (x / y) = (x / y) * y := Int.mul_comm _ _
  split at hb
  · rename_i h
    rw [if_pos h, show max (x / y + 1) 0 = x / y + 1 by omega, Int.add_mul]
    omega
  · rename_i h
    rw [if_neg h, show max (x / y) 0 = x / y by omega]
    omega
theorem iover_least {a b : Int} (h : 0 < iover a b) : 0 < a ∧ iover a b - 1 ≤ (max a 0 - 1) / max b 1 := by
  have hb := iover_bd a b
  refine ⟨by omega, ?_⟩
  unfold iover at h hb ⊢
  have hy : 0 < max b 1 := by omega
  generalize max a 0 = x at *
  generalize max b 1 = y at *
  have h2 := Int.mul_ediv_add_emod x y
  have h3 := Int.emod_nonneg x (show y ≠ 0 by omega)
  have h5 : y * (x / y) = (x / y) * y := Int.mul_comm _ _
  rw [Int.le_ediv_iff_mul_le hy]
  split
  · rename_i h
    rw [Int.sub_mul, Int.add_mul]; omega
  · rename_i h
    rw [Int.sub_mul]; omega
theorem iless_back {a b : Int} (ha : a ≤ 9223372036854775807) : sadd 9223372036854775807 [iless a b, min (max a 0) (max b 0)] = max a 0 := by
  simp only [sadd, isum, iless]; omega

end Go.Proofs.YtjmgokjljmmmgaaGreat
/- The walks of package sat. -/
namespace Go.Proofs.YtjmgokjljmmmgaaGreat
open Go.RowKit

theorem ret_int {k : IntKind} {a b : Int} (h : a = b) : Ending.returned (.int k a) = .returned (.int k b) := by rw [h]

end Go.Proofs.YtjmgokjljmmmgaaGreat
/- The walks of package sat: what is exported. -/
namespace Go.Proofs.YtjmgokjljmmmgaaGreat
open Go.RowKit

def InI64 (l : List Int) : Prop := ∀ x ∈ l, -9223372036854775808 ≤ x ∧ x ≤ 9223372036854775807

end Go.Proofs.YtjmgokjljmmmgaaGreat
/- The walks of the document's answers for layer 2. -/
namespace Go.Proofs.YtjmgokjljmmmgaaGreat
open Go.RowKit

theorem sadd_stop {m : Int} (_hm : 0 ≤ m) (l : List Int) (j : Nat) (x : Int) (h : l.take (j + 1) = l.take j ++ [x]) (hx : m - sadd m (l.take j) < max x 0) : sadd m l = m := by
  have e := List.take_append_drop (j + 1) l
  have h1 : ∀ a b : List Int, isum (a ++ b) = isum a + isum b := by
    intro a b
    induction a with
    | nil => simp [isum]
    | cons y a ih => simp only [List.cons_append, isum, ih]; omega
  have h2 : isum l = isum (l.take j) + max x 0 + isum (l.drop (j + 1)) := by
    rw [← isum_snoc, ← h, ← h1, e]
  have h3 := isum_nonneg (l.drop (j + 1))
  have h4 := isum_nonneg (l.take j)
  unfold sadd at hx ⊢
  omega

theorem iprod_append (a b : List Int) : iprod (a ++ b) = iprod a * iprod b := by
  induction a with
  | nil => simp [iprod]
  | cons y a ih => simp only [List.cons_append, iprod, ih, Int.mul_assoc]
theorem iprod_pos (l : List Int) (h : ∀ x ∈ l, 0 < x) : 1 ≤ iprod l := by
  induction l with
  | nil => simp [iprod]
  | cons y l ih =>
    have h1 := ih fun x hx => h x (by simp [hx])
    have h2 := h y (by simp)
    simp only [iprod]
    have := Int.mul_le_mul_of_nonneg_left h1 (show 0 ≤ max y 0 by omega)
    omega
theorem iprod_zero {l : List Int} {x : Int} (hx : x ∈ l) (h : x ≤ 0) : iprod l = 0 := by
  induction l with
  | nil => simp at hx
  | cons y l ih =>
    simp only [iprod]
    rcases List.mem_cons.1 hx with rfl | hx
    · rw [show max x 0 = 0 by omega]; simp
    · rw [ih hx]; simp

theorem smul_stop {m s x : Int} (l : List Int) (j : Nat) (hall : ∀ x ∈ l, 0 < x) (h : l.take (j + 1) = l.take j ++ [x]) (hs : iprod (l.take j) = s) (hs0 : 1 ≤ s) (hx0 : 0 < x) (hx : m / s < x) : smul m l = m := by
  have e := List.take_append_drop (j + 1) l
  have h2 : iprod l = s * x * iprod (l.drop (j + 1)) := by
    rw [← e, iprod_append, h, iprod_snoc, hs, show max x 0 = x by omega]
    simp [← h]
  have h3 := iprod_pos (l.drop (j + 1)) fun x hx => hall x (List.mem_of_mem_drop hx)
  have h4 : m < x * s := (Int.ediv_lt_iff_lt_mul (by omega)).1 hx
  have h5 : s * x = x * s := Int.mul_comm _ _
  have h6 : 0 ≤ s * x := Int.mul_nonneg (by omega) (by omega)
  have h7 := Int.mul_le_mul_of_nonneg_left h3 h6
  unfold smul
  omega

end Go.Proofs.YtjmgokjljmmmgaaGreat
/- The law FifoDoes, over the program's contracts as one structure. Written by wip/tools/gen_fifodoes.py. -/
namespace Go.Proofs.YtjmgokjljmmmgaaGreat
open Go.RowKit

theorem clip_is (n : Int) : iclip n 0 1024 = clipF n := by unfold iclip clipF; split <;> omega
/-- the list without its first number, as the model cuts it -/
theorem from18 (a : Option Addr) (n c : Nat) (hk : 1 ≤ n) (hn : n ≤ c) : ∃ a4 c4, (∀ w', (Instr.sliceAt 22 (.slice a n c) (some (.int .i64 1)) none none).run Tryz.prog w' = .ok (.slice a4 (n - 1) c4) w') ∧
    (∀ (w' : World) (l : List Int), l.length = n → RowsAt w' 1 csI (.slice a n c) l → RowsAt w' 1 csI (.slice a4 (n - 1) c4) (l.drop 1)) ∧ ∀ k, (Value.slice a4 (n - 1) c4).ownBlock = some k → (Value.slice a n c).ownBlock = some k := by
  have h1 : (1 : Int) ≤ (n : Int) := by omega
  by_cases hck : c = 1
  · have hc0 : n = 1 := by omega
    refine ⟨a, 0, fun w' => ?_, fun w' l hl h => ?_, fun k h => by cases a <;> simp [Value.ownBlock] at h ⊢; exact h⟩
    · simp [go_sem, hck, hc0, sliced]
    · have := restAt13 h 1 (by omega) a (fun h => by omega)
      rwa [hck, Nat.sub_self] at this
  · refine ⟨a.map (fun x => x.add 1), c - 1, fun w' => ?_, fun w' l hl h => ?_, fun k h => ?_⟩
    · simp [go_sem, sliced, h1]
      exact fun h => absurd h hck
    · exact restAt13 h 1 (by omega) _ (fun _ g o e => by subst e; simp [Addr.add])
    · cases a with
      | none => simp [Value.ownBlock] at h
      | some a => simpa [Value.ownBlock, Addr.add] using h
/-- what holds between two acts -/
abbrev Does18 (C : FifoProg) (w wx : World) (p v : Value) (n : Int) (L : List Int) (bs : List Bes) : Prop := SideG C.obj w wx p ⟨n, L⟩ (Bes.rows 1 csI v L :: bs)
def All18 (L : List Int) (k : Nat) : Prop := L.length ≤ k ∧ ∀ y ∈ L, In18 y
theorem All18.put {L : List Int} {k : Nat} (h : All18 L k) (n x : Int) (hx : In18 x) : All18 (putF L n x).1 (k + 1) := by
  refine ⟨Nat.le_trans (putF_len L n x) (by have := h.1; omega), fun y hy => ?_⟩
  unfold putF at hy
  split at hy
  · exact h.2 y hy
  · split at hy
    · exact h.2 y hy
    · rcases List.mem_append.1 hy with hy | hy
      · exact h.2 y hy
      · rw [List.mem_singleton.1 hy]; exact hx
theorem All18.tail {L : List Int} {k : Nat} (h : All18 L k) : All18 (L.drop 1) (k + 1) := ⟨by rw [List.length_drop]; have := h.1; omega, fun y hy => h.2 y (List.mem_of_mem_drop hy)⟩
theorem All18.drop {L : List Int} {k : Nat} (h : All18 L k) (x : Int) : All18 (dropF L x) (k + 1) := ⟨Nat.le_trans (dropF_len L x) (by have := h.1; omega), fun y hy => h.2 y ((dropF_mem _ _ _).1 hy).1⟩
theorem All18.same {L : List Int} {k : Nat} (h : All18 L k) : All18 L (k + 1) := ⟨by have := h.1; omega, h.2⟩

/-- the round's end, behind the act: the function's own statement -/
def rightC18 : Code → Code | .seq _ y => y | c => c
def leftC18 : Code → Code | .seq x _ => x | c => c
def inC18 : Code → Code | .block _ c => c | .loop c => c | c => c
end Go.Proofs.YtjmgokjljmmmgaaGreat
/- Stage 19: the document's Grant. -/
namespace Go.Proofs.YtjmgokjljmmmgaaGreat
open Go.RowKit

end Go.Proofs.YtjmgokjljmmmgaaGreat
/- Stage 20: a table that is worked on, and a list of grants beside it; ask as a whole. -/
namespace Go.Proofs.YtjmgokjljmmmgaaGreat
open Go.RowKit

section
variable {w w1 w' : World} {B : Nat} {G : Nat → Prop} {vl vs gv : Value} {Ls : List Lr} {Ss : List Sr} {gl : List (Int × Int)}
end


theorem OkX.wantlen {T : Tb} {x : Option Int} (h : OkX T x) {t : Int} (ht : t ∈ T.toks) : (T.want t).length ≤ 32 :=
  Nat.le_trans (len_of_sub (T.want t) T.ids (ris_nodup (h.wr _ ht)) (h.win _ ht)) (may_len h.may)
end Go.Proofs.YtjmgokjljmmmgaaGreat
/- Stage 20: the document's New, Few; what its Tokens and Seated tell of a table. -/
namespace Go.Proofs.YtjmgokjljmmmgaaGreat
open Go.RowKit

/-! ### Acts -/
structure Ac where
  kind : Int
  token : Int
  a : Option Addr
  c : Nat
  want : List Int
deriving Inhabited
abbrev Ac.v (x : Ac) : Value := .slice x.a x.want.length x.c
def csAc (x : Ac) : List Value := [.int .i64 x.kind, .int .i64 x.token, x.v]
theorem csAc_len (x : Ac) : (csAc x).length = 3 := rfl
structure ActsAt (w : World) (v : Value) (l : List Ac) : Prop where
  rows : RowsAt w 3 csAc v l
  each : ∀ x ∈ l, IntsAt w x.v x.want
theorem ActsAt.below {w w' : World} {v : Value} {l : List Ac} (h : ActsAt w v l) (hb : Below w.heap.size w w') : ActsAt w' v l := ⟨RowsAt.kept h.rows hb, fun x hx => (h.each x hx).below hb⟩
theorem RowsAt.atA {w : World} {v : Value} {l : List Ac} (h : RowsAt w 3 csAc v l) (k : Nat) (hk : k < l.length) :
    ∃ g o c, v = .slice (some ⟨g, o, none⟩) l.length c ∧ l.length ≤ c ∧ g < w.heap.size ∧ w.cell? ⟨g, o + k * 3, none⟩ = some (.int .i64 l[k].kind) ∧ w.cell? ⟨g, o + k * 3 + 1, none⟩ = some (.int .i64 l[k].token) ∧ w.cell? ⟨g, o + k * 3 + 2, none⟩ = some l[k].v := by
  obtain ⟨g, o, c, e, hc, hg, hx⟩ := h.spot k hk
  exact ⟨g, o, c, e, hc, hg, hx 0 _ rfl, hx 1 _ rfl, hx 2 _ rfl⟩
def fewB (l : List Ac) (most : Int) : Bool := decide ((l.length : Int) ≤ most) && l.all fun x => decide (x.want.length ≤ 40)

set_option maxHeartbeats 2000000 in
set_option maxRecDepth 100000 in
theorem refFew20_any (va : Value) (l : List Ac) (most : Int) (W : World) (ha : RowsAt W 3 csAc va l) (hm : most ≤ 1000) :
    Calls Tryz.prog 5 #[va, .int .i64 most] W fun e w' => e = .returned (.bool (fewB l most)) ∧ Below W.heap.size W w' := by
  obtain ⟨r, hr⟩ : ∃ r, fewB l most = r := ⟨_, rfl⟩
  rw [hr]
  have HR := Lib.hid hr
  have HA := Lib.hid ha
  obtain ⟨a, c, rfl⟩ := RowsAt.form ha
  clear hr ha
  by_cases h1 : (l.length : Int) ≤ most
  · have k1 : ¬ most < (l.length : Int) := by omega
    have HL := Lib.hid (show l.length ≤ 1000 by omega)
    have HH1 := Lib.hid h1
    clear h1
    go_enter Tryz.func5, Tryz.ntmps5
    go_wp2
    go_loopg [5] l.length (fun kx iv wr => ∃ k : Nat, k ≤ l.length ∧ l.length - k ≤ kx ∧ iv = .int .i64 k ∧ Hid (∀ x ∈ l.take k, x.want.length ≤ 40) ∧ wr = W)
    case atStart => exact ⟨0, Nat.zero_le _, Nat.le_refl _, rfl, fun x hx => (by simp at hx), rfl⟩
    case round =>
      obtain ⟨k, hk, hkx, rfl, hall, rfl⟩ := hrel
      by_cases hlt : k < l.length
      · obtain ⟨g, o, cc, e, _, _, _, _, p2⟩ := RowsAt.atA HA.out k hlt
        cases e
        have j1 : (k : Int) < (l.length : Int) := by omega
        have j0 : (0 : Int) ≤ (k : Int) := by omega
        have j2 : (k : Int) ≤ 1000 := by have := HL.out; omega
        obtain ⟨x, hx⟩ : ∃ x, l[k] = x := ⟨_, rfl⟩
        rw [hx] at p2
        have hxm : x ∈ l := by rw [← hx]; exact List.getElem_mem hlt
        by_cases h40 : x.want.length ≤ 40
        · have HALL := Lib.hid (show ∀ y ∈ l.take (k + 1), y.want.length ≤ 40 from fun y hy => by
            rw [List.take_succ_eq_append_getElem hlt] at hy
            rcases List.mem_append.1 hy with hy | hy
            · exact hall.out y hy
            · rw [List.mem_singleton.1 hy, hx]; exact h40)
          have k40 : ¬ (40 : Int) < (x.want.length : Int) := by omega
          have HK := Lib.hid (And.intro hk (And.intro hkx hlt))
          clear hall hx hxm h40 hk hkx
          go_wp2
          go_roundg (l.length - (k + 1))
          case measure => have := HK.out; omega
          case rel => exact ⟨k + 1, by have := HK.out; omega, Nat.le_refl _, by go_num, HALL.out, rfl⟩
        · have HF := Lib.hid (show false = r by
            rw [← HR.out]
            unfold fewB
            rw [List.all_eq_false.2 ⟨x, hxm, by simpa using h40⟩, Bool.and_false])
          have k40 : (40 : Int) < (x.want.length : Int) := by omega
          clear hall hx hxm h40 hk hkx
          go_wp2
          go_ret
          exact ⟨ret_b HF.out, Below.refl _ _⟩
      · have hke : k = l.length := by omega
        have hall2 : ∀ x ∈ l, x.want.length ≤ 40 := by have := hall.out; rwa [hke, List.take_length] at this
        have HF := Lib.hid (show true = r by
          rw [← HR.out]
          unfold fewB
          rw [decide_eq_true HH1.out, List.all_eq_true.2 fun x hx => by simpa using hall2 x hx]
          rfl)
        have g2 : ¬ (k : Int) < (l.length : Int) := by omega
        clear hall hall2 hk hkx hlt hke
        go_wp2
        go_ret
        exact ⟨ret_b HF.out, Below.refl _ _⟩
  · have HF := Lib.hid (show false = r by rw [← HR.out]; unfold fewB; rw [decide_eq_false h1]; rfl)
    have k1 : most < (l.length : Int) := by omega
    clear h1
    go_enter Tryz.func5, Tryz.ntmps5
    go_wp2
    go_ret
    exact ⟨ret_b HF.out, Below.refl _ _⟩

/-! ### New -/
def newLs (l : List Int) : List Lr := l.map fun id => ⟨id, 0, none, 0, []⟩
theorem newLs_next (l : List Int) (i : Nat) (h : i < l.length) : newLs (l.take (i + 1)) = newLs (l.take i) ++ [⟨l[i], 0, none, 0, []⟩] := by
  unfold newLs
  rw [List.take_succ_eq_append_getElem h, List.map_append]
  rfl
theorem newLs_len (l : List Int) : (newLs l).length = l.length := by simp [newLs]
theorem filter_sts {Ss : List Sr} {T : Tb} (h : Ss.map stp = T.sts) (full : Bool) : tokensL Ss full = T.toks.filter fun t => !full || T.isFull t := by
  have e : tokensL Ss full = ((Ss.map stp).filter fun p => !full || decide (p.2.1 = (p.2.2.length : Int))).map Prod.fst := by
    unfold tokensL
    rw [List.filter_map, List.map_map]
    rfl
  rw [e, h]
  unfold Tb.sts
  rw [List.filter_map, List.map_map]
  have e2 : (Prod.fst ∘ fun t => (t, (T.got t : Int), T.want t)) = id := rfl
  rw [e2, List.map_id]
  congr 1
  funext t
  show (!full || decide ((T.got t : Int) = ((T.want t).length : Int))) = (!full || decide (T.got t = (T.want t).length))
  rw [show decide ((T.got t : Int) = ((T.want t).length : Int)) = decide (T.got t = (T.want t).length) from decide_eq_decide.2 ⟨fun h => by omega, fun h => by omega⟩]
def Tb.fullL (T : Tb) : List Int := T.toks.filter T.isFull
theorem tokens_all {Ss : List Sr} {T : Tb} (h : Ss.map stp = T.sts) : tokensL Ss false = T.toks := by
  rw [filter_sts h]
  simp
theorem tokens_full {Ss : List Sr} {T : Tb} (h : Ss.map stp = T.sts) : tokensL Ss true = T.fullL := by
  rw [filter_sts h]
  simp [Tb.fullL]
end Go.Proofs.YtjmgokjljmmmgaaGreat
/- Stage 20: Load: the table of any locks and leases as mathematics; when there is one. -/
namespace Go.Proofs.YtjmgokjljmmmgaaGreat
open Go.RowKit

/-- a lease in a list -/
structure Le where
  token : Int
  task : Int
  worker : Int
  unit : Int
  due : Int
  got : Int
  a : Option Addr
  c : Nat
  want : List Int
deriving Inhabited
abbrev Le.v (x : Le) : Value := .slice x.a x.want.length x.c
def csLe (x : Le) : List Value := [.int .i64 x.token, .int .i64 x.task, .int .i64 x.worker, .int .i64 x.unit, .int .i64 x.due, .int .i64 x.got, x.v]
theorem csLe_len (x : Le) : (csLe x).length = 7 := rfl
structure LeasesAt (w : World) (v : Value) (l : List Le) : Prop where
  rows : RowsAt w 7 csLe v l
  each : ∀ x ∈ l, IntsAt w x.v x.want
/-- who holds an aisle, who waits for it -/
def hdL (Ls : List Lr) (id : Int) : Int := ((Ls.find? fun x => x.id == id).map Lr.holder).getD 0
def wtL (Ls : List Lr) (id : Int) : List Int := ((Ls.find? fun x => x.id == id).map Lr.wait).getD []
def goL (Xs : List Le) (t : Int) : Nat := ((Xs.find? fun x => x.token == t).map fun x => x.got.toNat).getD 0
def waL (Xs : List Le) (t : Int) : List Int := ((Xs.find? fun x => x.token == t).map Le.want).getD []
def mkT (Ls : List Lr) (Xs : List Le) : Tb := ⟨idsL Ls, hdL Ls, wtL Ls, Xs.map Le.token, goL Xs, waL Xs⟩
/-- leases that a table may have, behind the token last -/
def lesB (ids : List Int) : Int → List Le → Bool
  | _, [] => true
  | last, x :: r => decide (last < x.token) && (rightB x.want && (decide (0 ≤ x.got) && (decide (x.got ≤ (x.want.length : Int)) && (x.want.all (fun a => inL ids a) && lesB ids x.token r))))
/-- does a token hold, and wait for, just what it must -/
def seatB (T : Tb) (t : Int) : Bool := ((T.want t).take (T.got t)).all (fun id => T.hd id == t) && (decide (T.got t = (T.want t).length) || inL (T.wt ((T.want t)[T.got t]?.getD 0)) t)
/-- has a lock just those that hold it, and wait for it -/
def holdB (T : Tb) (id h : Int) : Bool := (h == 0) || (inL T.toks h && inL ((T.want h).take (T.got h)) id)
def waitB (T : Tb) (id : Int) : List Int → List Int → Bool
  | _, [] => true
  | pre, t :: r => inL T.toks t && (!inL pre t && (decide (T.nx t = some id) && waitB T id (pre ++ [t]) r))
def lockB (T : Tb) (l : Lr) : Bool := holdB T l.id l.holder && waitB T l.id [] l.wait
def loadB (Ls : List Lr) (Xs : List Le) : Bool := (mayB (idsL Ls) && decide (Xs.length ≤ 64)) && (lesB (idsL Ls) 0 Xs && (((Xs.map Le.token).all fun t => seatB (mkT Ls Xs) t) && Ls.all fun l => lockB (mkT Ls Xs) l))

theorem inL_iff20 {l : List Int} {n : Int} : inL l n = true ↔ n ∈ l := by unfold inL; exact decide_eq_true_iff
theorem find_tok {Xs : List Le} (hn : (Xs.map Le.token).Nodup) {x : Le} (hx : x ∈ Xs) : Xs.find? (fun y => y.token == x.token) = some x := by
  induction Xs with
  | nil => cases hx
  | cons y r ih =>
    rw [List.map_cons, List.nodup_cons] at hn
    by_cases e : y.token = x.token
    · rcases List.mem_cons.1 hx with rfl | hx
      · simp
      · exact (hn.1 (e ▸ List.mem_map_of_mem hx)).elim
    · rcases List.mem_cons.1 hx with rfl | hx
      · exact (e rfl).elim
      · rw [List.find?_cons_of_neg (by simpa using e)]
        exact ih hn.2 hx
theorem find_id {Ls : List Lr} (hn : (idsL Ls).Nodup) {x : Lr} (hx : x ∈ Ls) : Ls.find? (fun y => y.id == x.id) = some x := by
  induction Ls with
  | nil => cases hx
  | cons y r ih =>
    unfold idsL at hn ih
    rw [List.map_cons, List.nodup_cons] at hn
    by_cases e : y.id = x.id
    · rcases List.mem_cons.1 hx with rfl | hx
      · simp
      · exact (hn.1 (e ▸ List.mem_map_of_mem hx)).elim
    · rcases List.mem_cons.1 hx with rfl | hx
      · exact (e rfl).elim
      · rw [List.find?_cons_of_neg (by simpa using e)]
        exact ih hn.2 hx
theorem mk_seat {Ls : List Lr} {Xs : List Le} (hn : (Xs.map Le.token).Nodup) {x : Le} (hx : x ∈ Xs) : (mkT Ls Xs).got x.token = x.got.toNat ∧ (mkT Ls Xs).want x.token = x.want := by
  have h := find_tok hn hx
  refine ⟨?_, ?_⟩
  · show goL Xs x.token = _
    unfold goL
    rw [h]; rfl
  · show waL Xs x.token = _
    unfold waL
    rw [h]; rfl
theorem mk_lock {Ls : List Lr} {Xs : List Le} (hn : (idsL Ls).Nodup) {x : Lr} (hx : x ∈ Ls) : (mkT Ls Xs).hd x.id = x.holder ∧ (mkT Ls Xs).wt x.id = x.wait := by
  have h := find_id hn hx
  refine ⟨?_, ?_⟩
  · show hdL Ls x.id = _
    unfold hdL
    rw [h]; rfl
  · show wtL Ls x.id = _
    unfold wtL
    rw [h]; rfl
theorem mk_lks {Ls : List Lr} {Xs : List Le} (hn : (idsL Ls).Nodup) : Ls.map lkp = (mkT Ls Xs).lks := by
  unfold Tb.lks
  show _ = (Ls.map Lr.id).map _
  rw [List.map_map]
  refine List.map_congr_left fun x hx => ?_
  have h := mk_lock (Xs := Xs) hn hx
  simp only [lkp, Function.comp_apply, h.1, h.2]
theorem lesB_cons {ids : List Int} {last : Int} {x : Le} {r : List Le} : lesB ids last (x :: r) = true ↔ last < x.token ∧ rightB x.want = true ∧ 0 ≤ x.got ∧ x.got ≤ (x.want.length : Int) ∧ (∀ a ∈ x.want, a ∈ ids) ∧ lesB ids x.token r = true := by
  show (decide (last < x.token) && (rightB x.want && (decide (0 ≤ x.got) && (decide (x.got ≤ (x.want.length : Int)) && (x.want.all (fun a => inL ids a) && lesB ids x.token r))))) = true ↔ _
  simp only [Bool.and_eq_true, decide_eq_true_eq, List.all_eq_true, inL_iff20]
theorem lesB_ris {ids : List Int} : ∀ (Xs : List Le) (last : Int), lesB ids last Xs = true → (∀ t ∈ Xs.map Le.token, last < t) ∧ risL (Xs.map Le.token)
  | [], _, _ => ⟨fun _ h => (by cases h), List.Pairwise.nil⟩
  | x :: r, last, h => by
    obtain ⟨h1, _, _, _, _, h6⟩ := lesB_cons.1 h
    obtain ⟨i1, i2⟩ := lesB_ris r x.token h6
    refine ⟨fun t ht => ?_, ?_⟩
    · rw [List.map_cons] at ht
      rcases List.mem_cons.1 ht with rfl | ht
      · exact h1
      · have := i1 t ht; omega
    · rw [List.map_cons]
      exact List.pairwise_cons.2 ⟨i1, i2⟩
theorem lesB_each {ids : List Int} : ∀ (Xs : List Le) (last : Int), lesB ids last Xs = true → ∀ x ∈ Xs, rightB x.want = true ∧ 0 ≤ x.got ∧ x.got ≤ (x.want.length : Int) ∧ ∀ a ∈ x.want, a ∈ ids
  | [], _, _, _, h => (by cases h)
  | x :: r, last, h, y, hy => by
    obtain ⟨_, h2, h3, h4, h5, h6⟩ := lesB_cons.1 h
    rcases List.mem_cons.1 hy with rfl | hy
    · exact ⟨h2, h3, h4, h5⟩
    · exact lesB_each r _ h6 y hy
theorem waitB_iff {T : Tb} {id : Int} : ∀ (L pre : List Int), waitB T id pre L = true ↔ (∀ t ∈ L, t ∈ T.toks ∧ t ∉ pre ∧ T.nx t = some id) ∧ L.Nodup
  | [], pre => by simp [waitB]
  | t :: r, pre => by
    show (inL T.toks t && (!inL pre t && (decide (T.nx t = some id) && waitB T id (pre ++ [t]) r))) = true ↔ _
    simp only [Bool.and_eq_true, Bool.not_eq_true', decide_eq_true_eq, inL_iff20, waitB_iff r (pre ++ [t]), List.nodup_cons]
    have hpre : inL pre t = false ↔ t ∉ pre := by unfold inL; exact decide_eq_false_iff_not
    rw [hpre]
    constructor
    · rintro ⟨h1, h2, h3, h4, h5⟩
      refine ⟨fun u hu => ?_, fun hu => ?_, h5⟩
      · rcases List.mem_cons.1 hu with rfl | hu
        · exact ⟨h1, h2, h3⟩
        · obtain ⟨k1, k2, k3⟩ := h4 u hu
          exact ⟨k1, fun h => k2 (by simp [h]), k3⟩
      · exact (h4 t hu).2.1 (by simp)
    · rintro ⟨h1, h2, h3⟩
      have ht := h1 t (by simp)
      refine ⟨ht.1, ht.2.1, ht.2.2, fun u hu => ?_, h3⟩
      obtain ⟨k1, k2, k3⟩ := h1 u (by simp [hu])
      refine ⟨k1, fun h => ?_, k3⟩
      rcases List.mem_append.1 h with h | h
      · exact k2 h
      · rw [List.mem_singleton.1 h] at hu
        exact h2 hu
theorem waitB_snoc {T : Tb} {id t : Int} : ∀ (L pre : List Int), waitB T id pre (L ++ [t]) = (waitB T id pre L && (inL T.toks t && (!inL (pre ++ L) t && decide (T.nx t = some id))))
  | [], pre => by simp [waitB]
  | u :: r, pre => by
    show (inL T.toks u && (!inL pre u && (decide (T.nx u = some id) && waitB T id (pre ++ [u]) (r ++ [t])))) = ((inL T.toks u && (!inL pre u && (decide (T.nx u = some id) && waitB T id (pre ++ [u]) r))) && _)
    rw [waitB_snoc r (pre ++ [u])]
    simp only [List.append_assoc, List.cons_append, List.nil_append, Bool.and_assoc]
theorem waitB_more {T : Tb} {id : Int} : ∀ (L R pre : List Int), waitB T id pre L = false → waitB T id pre (L ++ R) = false
  | [], R, pre, h => by simp [waitB] at h
  | u :: r, R, pre, h => by
    have h2 : (inL T.toks u && (!inL pre u && (decide (T.nx u = some id) && waitB T id (pre ++ [u]) r))) = false := h
    show (inL T.toks u && (!inL pre u && (decide (T.nx u = some id) && waitB T id (pre ++ [u]) (r ++ R)))) = false
    cases h3 : waitB T id (pre ++ [u]) r with
    | false => rw [waitB_more r R _ h3]; simp
    | true =>
      rw [h3] at h2
      simp only [Bool.and_true] at h2
      cases h4 : inL T.toks u
      · rfl
      · rw [h4] at h2
        cases h5 : inL pre u
        · rw [h5] at h2
          simp only [Bool.not_false, Bool.true_and] at h2
          rw [h2]; rfl
        · rfl
/-- what may be loaded is right -/
theorem load_ok {Ls : List Lr} {Xs : List Le} (h : loadB Ls Xs = true) (hr : ∀ x ∈ Xs, In18 x.token) : (mkT Ls Xs).Ok := by
  unfold loadB at h
  simp only [Bool.and_eq_true, decide_eq_true_eq, List.all_eq_true] at h
  obtain ⟨⟨hm, h64⟩, hle, hse, hlo⟩ := h
  have hidn : (idsL Ls).Nodup := ris_nodup (may_ris hm)
  obtain ⟨hlt, hris⟩ := lesB_ris Xs 0 hle
  have htn := ris_nodup hris
  have heach := lesB_each Xs 0 hle
  have hseat : ∀ t ∈ Xs.map Le.token, ∃ x ∈ Xs, x.token = t ∧ (mkT Ls Xs).got t = x.got.toNat ∧ (mkT Ls Xs).want t = x.want := fun t ht => by
    obtain ⟨x, hx, rfl⟩ := List.mem_map.1 ht
    exact ⟨x, hx, rfl, mk_seat htn hx⟩
  have hlock : ∀ id ∈ idsL Ls, ∃ x ∈ Ls, x.id = id ∧ (mkT Ls Xs).hd id = x.holder ∧ (mkT Ls Xs).wt id = x.wait := fun id hid => by
    obtain ⟨x, hx, rfl⟩ := List.mem_map.1 hid
    exact ⟨x, hx, rfl, mk_lock hidn hx⟩
  have hwin : ∀ t ∈ Xs.map Le.token, ∀ a ∈ (mkT Ls Xs).want t, a ∈ idsL Ls := fun t ht a ha => by
    obtain ⟨x, hx, _, _, h2⟩ := hseat t ht
    rw [h2] at ha
    exact (heach x hx).2.2.2 a ha
  have hS := fun t ht => hse t ht
  have hL : ∀ x ∈ Ls, (x.holder ≠ 0 → x.holder ∈ Xs.map Le.token ∧ x.id ∈ ((mkT Ls Xs).want x.holder).take ((mkT Ls Xs).got x.holder)) ∧ (∀ t ∈ x.wait, t ∈ Xs.map Le.token ∧ (mkT Ls Xs).nx t = some x.id) ∧ x.wait.Nodup := fun x hx => by
    have h1 := hlo x hx
    unfold lockB holdB at h1
    simp only [Bool.and_eq_true, Bool.or_eq_true, beq_iff_eq, inL_iff20] at h1
    obtain ⟨h2, h3⟩ := h1
    obtain ⟨h4, h5⟩ := (waitB_iff x.wait []).1 h3
    exact ⟨fun hne => h2.resolve_left hne, fun t ht => ⟨(h4 t ht).1, (h4 t ht).2.2⟩, h5⟩
  refine { may := hm, ris := hris, pos := fun t ht => ?_, few := by show (Xs.map Le.token).length ≤ 64; rw [List.length_map]; exact h64, wr := fun t ht => ?_, win := hwin, gl := fun t ht => ?_, hold := fun id hid hne => ?_, held := fun t ht id hid => ?_, wait := fun id hid t ht => ?_, nd := fun id hid => ?_, waits := fun t ht _ id hn => ?_, off := fun _ h => (by cases h) }
  · obtain ⟨x, hx, rfl, _⟩ := hseat t ht
    have := hlt _ ht
    exact ⟨by omega, hr x hx⟩
  · obtain ⟨x, hx, _, _, h2⟩ := hseat t ht
    rw [h2]
    exact of_decide_eq_true (heach x hx).1
  · obtain ⟨x, hx, _, h1, h2⟩ := hseat t ht
    rw [h1, h2]
    have := (heach x hx).2.2.1
    omega
  · obtain ⟨x, hx, rfl, h1, _⟩ := hlock id hid
    rw [h1] at hne ⊢
    exact (hL x hx).1 hne
  · have h1 := hS t ht
    unfold seatB at h1
    simp only [Bool.and_eq_true, List.all_eq_true, beq_iff_eq] at h1
    exact h1.1 id hid
  · obtain ⟨x, hx, rfl, _, h2⟩ := hlock id hid
    rw [h2] at ht
    exact (hL x hx).2.1 t ht
  · obtain ⟨x, hx, rfl, _, h2⟩ := hlock id hid
    rw [h2]
    exact (hL x hx).2.2
  · have h1 := hS t ht
    unfold seatB at h1
    simp only [Bool.and_eq_true, Bool.or_eq_true, decide_eq_true_eq, inL_iff20] at h1
    obtain ⟨hg, hgid⟩ := nx_at hn
    have hn2 : ((mkT Ls Xs).want t)[(mkT Ls Xs).got t]? = some id := hn
    rcases h1.2 with h2 | h2
    · omega
    · rw [hn2] at h2
      exact h2
end Go.Proofs.YtjmgokjljmmmgaaGreat
