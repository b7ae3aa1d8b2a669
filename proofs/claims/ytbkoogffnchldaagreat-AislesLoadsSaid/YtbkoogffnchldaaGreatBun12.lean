/- Texts of this proof, joined: AisRefB; AisRefC; AisAsk; AisRefF; TbC. -/
import Derived.Test.YtbkoogffnchldaaGreatBun11
import Derived.Deep.AppendLies
import Derived.Deep.RegionLaw
/- Stage 20: the document's table in memory; a copy of it; Leave. -/
namespace Go.Proofs.YtbkoogffnchldaaGreat
open Go.RowKit

/-- a table of the document's, in blocks of G -/
structure DocA (G : Nat → Prop) (w : World) (vl vs : Value) (T : Tb) (Ls : List Lr) (Ss : List Sr) : Prop where
  locks : LocksAt w vl Ls
  seats : SeatsAt w vs Ss
  le : Ls.map lkp = T.lks
  se : Ss.map stp = T.sts
  fl : 0 < Ls.length → ∀ k, vl.ownBlock = some k → G k
  fs : 0 < Ss.length → ∀ k, vs.ownBlock = some k → G k
  el : ∀ x ∈ Ls, 0 < x.wait.length → ∀ k, x.v.ownBlock = some k → G k
  es : ∀ x ∈ Ss, 0 < x.want.length → ∀ k, x.v.ownBlock = some k → G k
  lt : ∀ k, G k → k < w.heap.size
def DocAt (G : Nat → Prop) (w : World) (vl vs : Value) (T : Tb) : Prop := ∃ Ls Ss, DocA G w vl vs T Ls Ss
section
variable {G : Nat → Prop} {w w' : World} {vl vs : Value} {T : Tb} {Ls : List Lr} {Ss : List Sr}
theorem lks_ids (h : Ls.map lkp = T.lks) : idsL Ls = T.ids := by
  have := congrArg (List.map Prod.fst) h
  unfold Tb.lks at this
  rw [List.map_map, List.map_map] at this
  simpa [idsL, Function.comp_def, lkp] using this
theorem sts_toks (h : Ss.map stp = T.sts) : toksS Ss = T.toks := by
  have := congrArg (List.map Prod.fst) h
  unfold Tb.sts at this
  rw [List.map_map, List.map_map] at this
  simpa [toksS, Function.comp_def, stp] using this
theorem lks_len (h : Ls.map lkp = T.lks) : Ls.length = T.ids.length := by rw [← lks_ids h]; simp [idsL]
theorem sts_len (h : Ss.map stp = T.sts) : Ss.length = T.toks.length := by rw [← sts_toks h]; simp [toksS]
theorem lks_at (h : Ls.map lkp = T.lks) (i : Nat) (hi : i < Ls.length) (hi2 : i < T.ids.length) : lkp Ls[i] = (T.ids[i], T.hd T.ids[i], T.wt T.ids[i]) := by
  have : (Ls.map lkp)[i]? = T.lks[i]? := by rw [h]
  unfold Tb.lks at this
  rw [List.getElem?_map, List.getElem?_map, List.getElem?_eq_getElem hi, List.getElem?_eq_getElem hi2] at this
  exact Option.some.inj this
theorem sts_at (h : Ss.map stp = T.sts) (i : Nat) (hi : i < Ss.length) (hi2 : i < T.toks.length) : stp Ss[i] = (T.toks[i], (T.got T.toks[i] : Int), T.want T.toks[i]) := by
  have : (Ss.map stp)[i]? = T.sts[i]? := by rw [h]
  unfold Tb.sts at this
  rw [List.getElem?_map, List.getElem?_map, List.getElem?_eq_getElem hi, List.getElem?_eq_getElem hi2] at this
  exact Option.some.inj this
theorem map_upF {β : Type} {ids : List Int} (hn : ids.Nodup) (f g : Int → β) (i : Nat) (hi : i < ids.length) (hg : ∀ x, x ≠ ids[i] → g x = f x) : (ids.map f).set i (g ids[i]) = ids.map g := by
  refine List.ext_getElem (by simp) fun j h1 h2 => ?_
  simp only [List.length_set, List.length_map] at h1
  rw [List.getElem_set]
  by_cases e : i = j
  · subst e; simp
  · rw [if_neg e, List.getElem_map, List.getElem_map]
    refine (hg _ fun e2 => ?_).symm
    rcases Nat.lt_or_gt_of_ne e with h | h
    · exact List.pairwise_iff_getElem.1 hn i j hi (by omega) h e2.symm
    · exact List.pairwise_iff_getElem.1 hn j i (by omega) hi h e2
/-- one lock is another one -/
theorem lks_set (h : Ls.map lkp = T.lks) (hn : T.ids.Nodup) (i : Nat) (hi : i < T.ids.length) (x : Lr) (T' : Tb) (hT : T'.ids = T.ids) (hx : lkp x = (T.ids[i], T'.hd T.ids[i], T'.wt T.ids[i])) (ho : ∀ a, a ≠ T.ids[i] → T'.hd a = T.hd a ∧ T'.wt a = T.wt a) : (Ls.set i x).map lkp = T'.lks := by
  rw [List.map_set, h, hx]
  unfold Tb.lks
  rw [hT]
  exact map_upF hn (fun id => (id, T.hd id, T.wt id)) (fun id => (id, T'.hd id, T'.wt id)) i hi fun a ha => by simp only [(ho a ha).1, (ho a ha).2]
theorem sts_set (h : Ss.map stp = T.sts) (hn : T.toks.Nodup) (i : Nat) (hi : i < T.toks.length) (x : Sr) (T' : Tb) (hT : T'.toks = T.toks) (hx : stp x = (T.toks[i], (T'.got T.toks[i] : Int), T'.want T.toks[i])) (ho : ∀ a, a ≠ T.toks[i] → T'.got a = T.got a ∧ T'.want a = T.want a) : (Ss.set i x).map stp = T'.sts := by
  rw [List.map_set, h, hx]
  unfold Tb.sts
  rw [hT]
  exact map_upF hn (fun t => (t, (T.got t : Int), T.want t)) (fun t => (t, (T'.got t : Int), T'.want t)) i hi fun a ha => by simp only [(ho a ha).1, (ho a ha).2]
theorem WkAt.doc {B : Nat} (h : WkAt w B G vl vs Ls Ss) (hG : ∀ k, G k → k < w.heap.size) (le : Ls.map lkp = T.lks) (se : Ss.map stp = T.sts) : DocAt (fun k => G k ∨ (B ≤ k ∧ k < w.heap.size)) w vl vs T :=
  ⟨Ls, Ss, h.locks, h.seats, le, se, fun h0 k hk => .inr ⟨(h.lo (List.length_pos_iff.1 h0)).2 k hk, h.lr.lt h0 k hk⟩, fun h0 k hk => .inr ⟨(h.so (List.length_pos_iff.1 h0)).2 k hk, h.sr.lt h0 k hk⟩,
    fun x hx h0 k hk => ((h.el x hx).2 h0 k hk).1.imp (fun h => h) fun h2 => ⟨h2, (h.el x hx).1.lt h0 k hk⟩, fun x hx h0 k hk => ((h.es x hx).2 h0 k hk).1.imp (fun h => h) fun h2 => ⟨h2, (h.es x hx).1.lt h0 k hk⟩, fun k hk => hk.elim (hG k) fun h => h.2⟩
theorem DocA.same (h : DocA G w vl vs T Ls Ss) (hz : w.heap.size ≤ w'.heap.size) (he : ∀ k, G k → w'.heap[k]? = w.heap[k]?) : DocA G w' vl vs T Ls Ss :=
  ⟨⟨h.locks.rows.same hz fun h0 g hg => he g (h.fl h0 g hg), fun x hx => (h.locks.each x hx).same hz fun h0 k hk => he k (h.el x hx h0 k hk)⟩, ⟨h.seats.rows.same hz fun h0 g hg => he g (h.fs h0 g hg), fun x hx => (h.seats.each x hx).same hz fun h0 k hk => he k (h.es x hx h0 k hk)⟩, h.le, h.se, h.fl, h.fs, h.el, h.es, fun k hk => Nat.lt_of_lt_of_le (h.lt k hk) hz⟩
theorem DocA.kept (h : DocA G w vl vs T Ls Ss) (hb : Below w.heap.size w w') : DocA G w' vl vs T Ls Ss := h.same hb.size fun k hk => hb.block k (h.lt k hk)
theorem DocAt.same (h : DocAt G w vl vs T) (hz : w.heap.size ≤ w'.heap.size) (he : ∀ k, G k → w'.heap[k]? = w.heap[k]?) : DocAt G w' vl vs T := by
  obtain ⟨Ls, Ss, h⟩ := h
  exact ⟨Ls, Ss, h.same hz he⟩
theorem DocAt.kept (h : DocAt G w vl vs T) (hb : Below w.heap.size w w') : DocAt G w' vl vs T := by
  obtain ⟨Ls, Ss, h⟩ := h
  exact ⟨Ls, Ss, h.kept hb⟩
theorem DocAt.form (h : DocAt G w vl vs T) : ∃ al cl as' cs', vl = .slice al T.ids.length cl ∧ vs = .slice as' T.toks.length cs' := by
  obtain ⟨Ls, Ss, h⟩ := h
  obtain ⟨a, c, e1⟩ := RowsAt.form h.locks.rows
  obtain ⟨b, d, e2⟩ := RowsAt.form h.seats.rows
  rw [lks_len h.le] at e1
  rw [sts_len h.se] at e2
  exact ⟨a, c, b, d, e1, e2⟩
/-- rows that have just been made -/
theorem WkAt.of {B : Nat} (h1 : FreshR B 31 3 csL Ls vl w) (h2 : Ss ≠ [] → OwnR w B 68 3 csSt vs Ss) (h2r : RowsAt w 3 csSt vs Ss)
    (hl : ∀ x ∈ Ls, IntsAt w x.v x.wait ∧ (0 < x.wait.length → ∀ k, x.v.ownBlock = some k → G k ∧ k < B)) (hs : ∀ x ∈ Ss, IntsAt w x.v x.want ∧ ((0 < x.want.length → ∀ k, x.v.ownBlock = some k → G k ∧ k < B) ∨ OwnI w B x.v x.want)) : WkAt w B G vl vs Ls Ss := by
  have g1 : Ls ≠ [] → OwnR w B 31 3 csL vl Ls := fun h0 => by
    rcases h1 with ⟨e, _⟩ | ⟨_, h⟩
    · exact absurd e h0
    · exact h
  have u1 : ∀ h0 : Ls ≠ [], ∀ g, vl.ownBlock = some g → B ≤ g := fun h0 g hg => (World.ownsRow.lt (g1 h0) g hg).1
  have u2 : ∀ h0 : Ss ≠ [], ∀ g, vs.ownBlock = some g → B ≤ g := fun h0 g hg => (World.ownsRow.lt (h2 h0) g hg).1
  refine ⟨h1.rows csL_len, fun h0 => ⟨OwnR.own (g1 h0), u1 h0⟩, h2r, fun h0 => ⟨OwnR.own (h2 h0), u2 h0⟩, fun h0 h3 e => ?_, fun x hx => ⟨(hl x hx).1, fun h0 k hk => ?_⟩, fun x hx => ⟨(hs x hx).1, fun h0 k hk => ?_⟩⟩
  · obtain ⟨a, c, e2⟩ := h1.form csL_len
    have hr := h1.rows csL_len
    obtain ⟨g, o, c', e3, _⟩ := hr.spot 0 (List.length_pos_iff.2 h0)
    have hgo : vl.ownBlock = some g := by rw [e3]; rfl
    exact OwnR.unlike (g1 h0) (h2 h3) (by decide) g hgo (by rw [← e]; exact hgo)
  · obtain ⟨h3, h4⟩ := (hl x hx).2 h0 k hk
    have hne : Ls ≠ [] := List.ne_nil_of_mem hx
    exact ⟨.inl h3, fun e => by have := u1 hne k e; omega, fun h5 e => by have := u2 h5 k e; omega⟩
  · have hne : Ss ≠ [] := List.ne_nil_of_mem hx
    rcases (hs x hx).2 with h3 | h3
    · obtain ⟨h3, h4⟩ := h3 h0 k hk
      exact ⟨.inl h3, fun h5 e => by have := u1 h5 k e; omega, fun e => by have := u2 hne k e; omega⟩
    · exact ⟨.inr (World.ownsRow.lt h3 k hk).1, fun h5 e => OwnR.unlike h3 (g1 h5) (by decide) k hk e, fun e => OwnR.unlike h3 (h2 hne) (by decide) k hk e⟩
end

/-! ### One thing behind others of one's own -/
theorem rows_one {α : Type} {cs : α → List Value} {K : Nat} (w : World) (x : α) (e : TypeId) : RowsAt (w.alloc (.cells (cs x).toArray e)) K cs (.slice (some ⟨w.heap.size, 0, none⟩) 1 1) [x] :=
  ⟨some ⟨w.heap.size, 0, none⟩, 1, rfl, Nat.le_refl _, fun _ => ⟨w.heap.size, 0, rfl, by simp, fun j y hj i u hu => by
    have hj0 : j = 0 := by
      have := (List.getElem?_eq_some_iff.1 hj).1
      simp at this
      exact this
    subst hj0
    simp at hj
    subst hj
    have := (Blk.new w (cs x) e).cell i hu
    simpa using this⟩⟩
theorem appK {α : Type} {cs : α → List Value} {K : Nat} (hlen : ∀ x, (cs x).length = K) (hK0 : 0 < K) (hone : ∀ x, ∀ u ∈ cs x, u.oneCell' = true) (e ts : TypeId) (i : TypeInfo) (z : Value) (bytes : Nat) (ht : Tryz.prog.underlying ts = some (.slice e)) (hi : Tryz.prog.info? e = some i) (hz : i.zero = some z) (hsize : i.size = K) (hby : i.bytes = bytes) (hzs : z.cells.size = K) (hb : bytes ≤ 1000)
    {ops : Array Oper} {rest : List Oper} {o : Oper} {a : Act} {Q : Exit → Act → World → Prop} {B : Nat} {w : World} {x : α} {v : Value} {l : List α} (hown : OwnR w B e K cs v l) (hB : B ≤ w.heap.size) (hl : l.length ≤ 1000000)
    (hgd : o.guard = none) (s y : Operand) (ho : o.op = .call { callee := .builtin .append, args := #[s, y], argTypes := #[ts, ts] }) (hs : a.eval s = v) (hx : a.eval y = .slice (some ⟨w.heap.size, 0, none⟩) 1 1)
    (hK : ∀ v' w', OwnR w' B e K cs v' (l ++ [x]) → Below B w w' → Only (fun k => v.ownBlock = some k) w w' → (∀ k, v'.ownBlock = some k → v.ownBlock = some k ∨ w.heap.size ≤ k) → wpList Tryz.prog ops Q rest (a.put o.dst v') w') : wpList Tryz.prog ops Q (o :: rest) a (w.alloc (.cells (cs x).toArray e)) := by
  have ha := (Below.refl B w).alloc hB (.cells (cs x).toArray e)
  have h1 := OwnR.alloc hown (.cells (cs x).toArray e)
  have h2 : B ≤ (w.alloc (.cells (cs x).toArray e)).heap.size := Nat.le_trans hB ha.size
  refine wpList_append_lies _ hgd s y ts ho B e i z K bytes ht hi hz hsize hby hzs hK0 v l.length (flats cs l) hs h1 ⟨w.heap.size, 0, none⟩ 1 1 (cs x) hx (by rw [hlen]; omega) (World.news_of_block (cs := (cs x).toArray) (t := e) (fr := (0, 0)) (heap_alloc_new w _)) (hone x) (by omega) (by unfold maxLen; omega) (by
    have h3 : (l.length + 1) * bytes ≤ 1000001 * 1000 := Nat.mul_le_mul (by omega) hb
    omega) h2 (w.heap.size + 1) (by simp) fun g cap w' k1 k2 k3 _ => ?_
  exact hK _ w' (OwnR.snoc k1 rfl rfl) (OwnR.below h1 ha h2 k2) ((Only.of_below ((Below.refl w.heap.size w).alloc (Nat.le_refl _) _)).trans (Only.grown k2 fun k hk => hk)) fun k hk => by
    simp [Value.ownBlock] at hk
    subst hk
    exact k3.imp (fun h => h) fun h => by omega
theorem appS {ops : Array Oper} {rest : List Oper} {o : Oper} {a : Act} {Q : Exit → Act → World → Prop} {B : Nat} {w : World} (x : Sr) {v : Value} {l : List Sr} (hown : OwnR w B 68 3 csSt v l) (hB : B ≤ w.heap.size) (hl : l.length ≤ 1000000)
    (hgd : o.guard = none) (s y : Operand) (ho : o.op = .call { callee := .builtin .append, args := #[s, y], argTypes := #[36, 36] }) (hs : a.eval s = v) (hx : a.eval y = .slice (some ⟨w.heap.size, 0, none⟩) 1 1)
    (hK : ∀ v' w', OwnR w' B 68 3 csSt v' (l ++ [x]) → Below B w w' → Only (fun k => v.ownBlock = some k) w w' → (∀ k, v'.ownBlock = some k → v.ownBlock = some k ∨ w.heap.size ≤ k) → wpList Tryz.prog ops Q rest (a.put o.dst v') w') : wpList Tryz.prog ops Q (o :: rest) a (w.alloc (.cells #[.int .i64 x.token, .int .i64 x.got, x.v] 68)) := by
  obtain ⟨i, hi, hz, hs1, hb1⟩ := info_parts info_seat20
  exact appK csSt_len (by decide) csSt_one 68 36 i _ 40 Tryz.underlying36 hi hz hs1 hb1 rfl (by decide) hown hB hl hgd s y ho hs hx hK
def csG (p : Int × Int) : List Value := [.int .i64 p.1, .int .i64 p.2]
theorem csG_len (p : Int × Int) : (csG p).length = 2 := rfl
theorem csG_one (p : Int × Int) : ∀ u ∈ csG p, u.oneCell' = true := by
  intro u hu
  simp [csG] at hu
  rcases hu with rfl | rfl <;> rfl
theorem info_grant20 : (Tryz.prog.info? 97).map (fun i => (i.zero, i.size, i.bytes)) = some (some (.agg #[.int .i64 0, .int .i64 0]), 2, 16) := by kernel_rfl
theorem appG {ops : Array Oper} {rest : List Oper} {o : Oper} {a : Act} {Q : Exit → Act → World → Prop} {B : Nat} {w : World} (t id : Int) {v : Value} {l : List (Int × Int)} (hown : OwnR w B 97 2 csG v l) (hB : B ≤ w.heap.size) (hl : l.length ≤ 1000000)
    (hgd : o.guard = none) (s y : Operand) (ho : o.op = .call { callee := .builtin .append, args := #[s, y], argTypes := #[51, 51] }) (hs : a.eval s = v) (hx : a.eval y = .slice (some ⟨w.heap.size, 0, none⟩) 1 1)
    (hK : ∀ v' w', OwnR w' B 97 2 csG v' (l ++ [(t, id)]) → Below B w w' → Only (fun k => v.ownBlock = some k) w w' → (∀ k, v'.ownBlock = some k → v.ownBlock = some k ∨ w.heap.size ≤ k) → wpList Tryz.prog ops Q rest (a.put o.dst v') w') : wpList Tryz.prog ops Q (o :: rest) a (w.alloc (.cells #[.int .i64 t, .int .i64 id] 97)) := by
  obtain ⟨i, hi, hz, hs1, hb1⟩ := info_parts info_grant20
  exact appK csG_len (by decide) csG_one 97 51 i _ 16 Tryz.underlying51 hi hz hs1 hb1 rfl (by decide) hown hB hl hgd s y ho hs hx hK

/-- what is left of the seats -/
def dropS (l : List Sr) (t : Int) : List Sr := l.filter fun x => decide (x.token ≠ t)
theorem dropS_next (l : List Sr) (t : Int) (i : Nat) (h : i < l.length) : dropS (l.take (i + 1)) t = dropS (l.take i) t ++ (if l[i].token ≠ t then [l[i]] else []) := by
  unfold dropS
  rw [List.take_succ_eq_append_getElem h, List.filter_append]
  congr 1
  by_cases e : l[i].token = t <;> simp [e]
theorem dropS_le (l : List Sr) (t : Int) : (dropS l t).length ≤ l.length := List.length_filter_le _ _
theorem dropS_all {l : List Sr} {t : Int} (h : t ∉ toksS l) : dropS l t = l := List.filter_eq_self.2 fun x hx => by
  simp
  rintro rfl
  exact h (List.mem_map.2 ⟨x, hx, rfl⟩)
theorem dropS_lt {l : List Sr} {t : Int} (h : t ∈ toksS l) : (dropS l t).length < l.length := by
  obtain ⟨x, hx, rfl⟩ := List.mem_map.1 h
  have h1 : (dropS l x.token).length ≠ l.length := fun e => by
    have := List.length_filter_eq_length_iff.1 e x hx
    simp at this
  have := dropS_le l x.token
  omega
theorem dropS_map {l : List Sr} {T : Tb} (h : l.map stp = T.sts) (t : Int) (T' : Tb) (h1 : T'.toks = T.toks.filter fun x => decide (x ≠ t)) (h2 : T'.got = T.got) (h3 : T'.want = T.want) : (dropS l t).map stp = T'.sts := by
  unfold Tb.sts
  rw [h1, h2, h3]
  have e : (dropS l t).map stp = (l.map stp).filter fun p => decide (p.1 ≠ t) := by
    unfold dropS
    rw [List.filter_map]
    rfl
  rw [e, h]
  unfold Tb.sts
  rw [List.filter_map]
  rfl
end Go.Proofs.YtbkoogffnchldaaGreat
/- Stage 20: the document's Leave. -/
namespace Go.Proofs.YtbkoogffnchldaaGreat
open Go.RowKit

/-- a box that holds a table, and one for the answer behind it -/
structure Two20 (W : World) (vl vs : Value) (w : World) : Prop where
  box : Blk w W.heap.size [vl, vs]
  ans : Blk w (W.heap.size + 1) [.slice none 0 0, .slice none 0 0]
  below : Below W.heap.size W w
theorem two20_new (W : World) (vl vs : Value) : Two20 W vl vs ((W.alloc (.cells #[vl, vs] 38)).alloc (.cells #[.slice none 0 0, .slice none 0 0] 38)) := by
  have a1 := (Below.refl W.heap.size W).alloc (Nat.le_refl _) (.cells #[vl, vs] 38)
  have hX0 := Blk.new W [vl, vs] 38
  have a2 := (Below.refl (W.alloc (.cells #[vl, vs] 38)).heap.size _).alloc (Nat.le_refl _) (.cells #[.slice none 0 0, .slice none 0 0] 38)
  have hY := Blk.new (W.alloc (.cells #[vl, vs] 38)) [.slice none 0 0, .slice none 0 0] 38
  rw [show (W.alloc (.cells #[vl, vs] 38)).heap.size = W.heap.size + 1 by simp] at hY
  exact ⟨hX0.kept a2, hY, a1.trans (a2.mono a1.size)⟩
section
variable {W w w' : World} {vl vs v1 v2 : Value}
theorem Two20.kept (T : Two20 W vl vs w) (hb : Below w.heap.size w w') : Two20 W vl vs w' := ⟨T.box.kept hb, T.ans.kept hb, T.below.trans (hb.mono T.below.size)⟩
/-- what lies from B on has changed -/
theorem Two20.only {F : Nat → Prop} (T : Two20 W vl vs w) (ho : Only F w w') (hF : ∀ k, F k → W.heap.size + 2 ≤ k) : Two20 W vl vs w' :=
  ⟨T.box.same (ho.block _ (by have := Blk.lt T.box; omega) fun h => by have := hF _ h; omega), T.ans.same (ho.block _ (by have := Blk.lt T.ans; omega) fun h => by have := hF _ h; omega), T.below.trans (ho.below (fun k hk => by have := hF k hk; omega) T.below.size)⟩
/-- the box is written -/
theorem Two20.turn (T : Two20 W vl vs w) (v1 v2 : Value) : Two20 W v1 v2 ((w.setCell ⟨W.heap.size, 0, none⟩ v1).setCell ⟨W.heap.size, 1, none⟩ v2) :=
  ⟨(T.box.set 0 v1).set 1 v2, (T.ans.away _ _ (by simp)).away _ _ (by simp), (T.below.setCell (p := ⟨W.heap.size, 0, none⟩) (by simp) _).setCell (p := ⟨W.heap.size, 1, none⟩) (by simp) _⟩
theorem Two20.seats (T : Two20 W vl vs w) (v2 : Value) : Two20 W vl v2 (w.setCell ⟨W.heap.size, 1, none⟩ v2) :=
  ⟨T.box.set 1 v2, T.ans.away _ _ (by simp), T.below.setCell (p := ⟨W.heap.size, 1, none⟩) (by simp) _⟩
/-- the answer is written -/
theorem Two20.put (T : Two20 W vl vs w) (v1 v2 : Value) : Blk ((w.setCell ⟨W.heap.size + 1, 0, none⟩ v1).setCell ⟨W.heap.size + 1, 1, none⟩ v2) (W.heap.size + 1) [v1, v2] ∧ Below W.heap.size W ((w.setCell ⟨W.heap.size + 1, 0, none⟩ v1).setCell ⟨W.heap.size + 1, 1, none⟩ v2) :=
  ⟨(T.ans.set 0 v1).set 1 v2, (T.below.setCell (p := ⟨W.heap.size + 1, 0, none⟩) (by simp) _).setCell (p := ⟨W.heap.size + 1, 1, none⟩) (by simp) _⟩
end
theorem size_setCell (w : World) (p : Addr) (u : Value) : (w.setCell p u).heap.size = w.heap.size := by simp [World.setCell]

/-- the first j locks have been left -/
def Tb.lvg (T : Tb) (t : Int) (j : Nat) : Tb := { T with toks := T.toks.filter (fun x => decide (x ≠ t)), hd := fun id => if id ∈ T.ids.take j then (leaveL (T.hd id) (T.wt id) t).1 else T.hd id, wt := fun id => if id ∈ T.ids.take j then (leaveL (T.hd id) (T.wt id) t).2.1 else T.wt id }
theorem not_take {l : List Int} (hn : l.Nodup) (j : Nat) (hj : j < l.length) : l[j] ∉ l.take j := fun h => by
  obtain ⟨i, hi, e⟩ := List.getElem_of_mem h
  rw [List.length_take] at hi
  rw [List.getElem_take] at e
  exact List.pairwise_iff_getElem.1 hn i j (by omega) hj (by omega) e
theorem lvg_at (T : Tb) (hn : T.ids.Nodup) (t : Int) (j : Nat) (hj : j < T.ids.length) : (T.lvg t j).hd T.ids[j] = T.hd T.ids[j] ∧ (T.lvg t j).wt T.ids[j] = T.wt T.ids[j] := ⟨if_neg (not_take hn j hj), if_neg (not_take hn j hj)⟩
theorem lvg_next (T : Tb) (t : Int) (j : Nat) (hj : j < T.ids.length) : (T.lvg t (j + 1)).hd T.ids[j] = (leaveL (T.hd T.ids[j]) (T.wt T.ids[j]) t).1 ∧ (T.lvg t (j + 1)).wt T.ids[j] = (leaveL (T.hd T.ids[j]) (T.wt T.ids[j]) t).2.1 := by
  have h : T.ids[j] ∈ T.ids.take (j + 1) := by rw [List.take_succ_eq_append_getElem hj]; exact List.mem_append_right _ (List.mem_singleton.2 rfl)
  exact ⟨if_pos h, if_pos h⟩
theorem lvg_other (T : Tb) (t : Int) (j : Nat) (hj : j < T.ids.length) (a : Int) (ha : a ≠ T.ids[j]) : (T.lvg t (j + 1)).hd a = (T.lvg t j).hd a ∧ (T.lvg t (j + 1)).wt a = (T.lvg t j).wt a := by
  have h : a ∈ T.ids.take (j + 1) ↔ a ∈ T.ids.take j := by rw [List.take_succ_eq_append_getElem hj, List.mem_append, List.mem_singleton]; exact ⟨fun h => h.resolve_right ha, .inl⟩
  simp only [Tb.lvg, h, and_self]
theorem lvg_zero (T : Tb) (t : Int) : (T.lvg t 0).lks = T.lks := by simp [Tb.lks, Tb.lvg]
theorem lvg_end {T : Tb} {t : Int} (ht : t ∈ T.toks) : (T.lvg t T.ids.length).lks = (T.leave t).lks := by
  unfold Tb.leave
  rw [if_pos ht]
  unfold Tb.lks
  refine List.map_congr_left fun a ha => ?_
  have h : a ∈ T.ids.take T.ids.length := by rw [List.take_length]; exact ha
  simp only [Tb.lvg, if_pos h]

set_option maxHeartbeats 16000000 in
set_option maxRecDepth 100000 in
theorem refLeave20_any {G : Nat → Prop} {W : World} {vl vs : Value} {T : Tb} (t : Int) (h : DocAt G W vl vs T) (hok : T.Ok) :
    Calls Tryz.prog 12 #[tbv vl vs, .int .i64 t] W fun e w' => ∃ v1 v2, e = .returned (.tuple #[tbv v1 v2, .bool (decide (t ∈ T.toks))]) ∧ ∃ G', DocAt G' w' v1 v2 (T.leave t) ∧ (∀ k, G' k → G k ∨ W.heap.size ≤ k) ∧ Below W.heap.size W w' := by
  obtain ⟨Ls, Ss, hD⟩ := h
  obtain ⟨r, hr⟩ : ∃ r, decide (t ∈ T.toks) = r := ⟨_, rfl⟩
  obtain ⟨T', hT'⟩ : ∃ T', T.leave t = T' := ⟨_, rfl⟩
  rw [hr, hT']
  have hL1 : Ls.length ≤ 1000 := by rw [lks_len hD.le]; have := may_len hok.may; omega
  have hS1 : Ss.length ≤ 1000 := by rw [sts_len hD.se]; have := hok.few; omega
  have HR := Lib.hid hr
  have HT' := Lib.hid hT'
  have HOK := Lib.hid hok
  have HD := Lib.hid hD
  have HL1 := Lib.hid hL1
  have HS1 := Lib.hid hS1
  obtain ⟨al, cl, evl⟩ := RowsAt.form hD.locks.rows
  obtain ⟨a2, cs, evs⟩ := RowsAt.form hD.seats.rows
  subst evl evs
  have hTw := two20_new W (.slice al Ls.length cl) (.slice a2 Ss.length cs)
  have hsz : ((W.alloc (.cells #[.slice al Ls.length cl, .slice a2 Ss.length cs] 38)).alloc (.cells #[.slice none 0 0, .slice none 0 0] 38)).heap.size = W.heap.size + 2 := by simp
  clear hr hT' hok hD hL1 hS1
  go_enter Tryz.func12, Tryz.ntmps12
  go_wp2
  generalize (W.alloc (.cells #[.slice al Ls.length cl, .slice a2 Ss.length cs] 38)).alloc (.cells #[.slice none 0 0, .slice none 0 0] 38) = w2 at *
  have HTW := Lib.hid hTw
  have HSZ := Lib.hid hsz
  clear hTw hsz
  go_loopw [6, 7] (fun sv iv wr => ∃ i : Nat, i ≤ Ss.length ∧ iv = .int .i64 i ∧ OwnR wr w2.heap.size 68 3 csSt sv (dropS (Ss.take i) t) ∧ Below w2.heap.size w2 wr) (fun _ iv _ => Ss.length - (intOf iv).toNat)
  case atStart => exact ⟨0, by omega, rfl, OwnR.nil _ _ _ _ _, Below.refl _ _⟩
  case round =>
    obtain ⟨i, hi, rfl, ho, hB⟩ := hrel
    have HO3 := Lib.hid ho
    have HB3 := Lib.hid hB
    have c1 := (HTW.out.kept hB).box.cell 1 rfl
    by_cases hlt : i < Ss.length
    · obtain ⟨g, o, cc, e, _, _, p0, p1, p2⟩ := RowsAt.atS (SeatsAt.below HD.out.seats (HTW.out.below.trans (hB.mono HTW.out.below.size))).rows i hlt
      cases e
      have HLT := Lib.hid hlt
      have K0 : (0 : Int) ≤ (i : Int) := by omega
      have K1 : (i : Int) < (Ss.length : Int) := by omega
      have K2 : (i : Int) ≤ 1000 := by have := HS1.out; omega
      have hnx := dropS_next Ss t i hlt
      have hfl : (dropS (Ss.take i) t).length ≤ 1000 := Nat.le_trans (dropS_le _ _) (by rw [List.length_take]; have := HS1.out; omega)
      generalize Ss[i]'hlt = x at *
      generalize dropS (Ss.take i) t = D at *
      obtain ⟨tok, got, aw, cw, want⟩ := x
      dsimp only [Sr.v] at p0 p1 p2 hnx
      have HFL := Lib.hid hfl
      obtain ⟨aT, cT, e⟩ := RowsAt.form (OwnR.rows csSt_len HO3.out)
      subst e
      clear ho hB hfl
      by_cases hx : tok = t
      · rw [if_neg (by simpa using hx), List.append_nil] at hnx
        have HNX := Lib.hid hnx
        have g1 : (tok == t) = true := by simpa using hx
        clear hnx hx
        go_wp2
        go_roundw
        case rel => exact ⟨i + 1, by have := HLT.out; omega, by go_num, by rw [HNX.out]; exact HO3.out, HB3.out⟩
        case measure => have := HLT.out; simp [intOf] <;> omega
      · rw [if_pos (by simpa using hx)] at hnx
        have HNX := Lib.hid hnx
        have g1 : (tok == t) = false := beq_noI hx
        clear hnx hx
        go_wp2_with (at_builtin; refine appS ⟨tok, got, aw, cw, want⟩ HO3.out HB3.out.size (by have := HFL.out; omega) rfl _ _ rfl rfl rfl ?_; intro v6 w6 o6 b6 _ _; have HO6 := Lib.hid o6; have HB6 := Lib.hid (HB3.out.trans b6); clear o6 b6 c1 p0 p1 p2)
        go_roundw
        case rel => exact ⟨i + 1, by have := HLT.out; omega, by go_num, by rw [HNX.out]; exact HO6.out, HB6.out⟩
        case measure => have := HLT.out; simp [intOf] <;> omega
    · have hke : i = Ss.length := by omega
      subst hke
      rw [List.take_length] at HO3
      obtain ⟨D, hDd⟩ : ∃ D, dropS Ss t = D := ⟨_, rfl⟩
      rw [hDd] at HO3
      have HDD := Lib.hid hDd
      obtain ⟨aT, cT, e⟩ := RowsAt.form (OwnR.rows csSt_len HO3.out)
      subst e
      have HTW2 := Lib.hid (HTW.out.kept hB)
      have c0 := HTW2.out.box.cell 0 rfl
      have z0 := HTW2.out.box.free 0 rfl
      have z1 := HTW2.out.box.free 1 rfl
      have HDW := Lib.hid (HD.out.kept (HTW2.out.below))
      have CP := Lib.hid (refCopied20_any _ _ Ls Ss wr HDW.out.locks HDW.out.seats HL1.out HS1.out)
      have HB3z := Lib.hid (show W.heap.size + 2 ≤ wr.heap.size by have := hB.size; rw [HSZ.out] at this; exact this)
      clear ho hlt hDd hB
      by_cases hin : t ∈ T.toks
      · have hlen : (D.length : Int) < (Ss.length : Int) := by
          have := dropS_lt (l := Ss) (t := t) (by rw [sts_toks HD.out.se]; exact hin)
          rw [HDD.out] at this
          omega
        have HIN := Lib.hid hin
        clear hin
        go_upto_region 9 with (go_at_call 39; (with_reducible refine CP.out.mono ?_); rintro e w4 ⟨v1, v2, rfl, f1, f2, b4⟩; have F1 := Lib.hid f1; have F2 := Lib.hid f2; have B4 := Lib.hid b4; obtain ⟨x1, y1, e1⟩ := f1.form csL_len; obtain ⟨x2, y2, e2⟩ := f2.form csSt_len; subst e1 e2; have T4 := HTW2.out.kept b4; have d0 := T4.box.cell 0 rfl; have d1 := T4.box.cell 1 rfl; have d2 := T4.box.free 0 rfl; have d3 := T4.box.free 1 rfl; have HT4 := Lib.hid T4; clear f1 f2 b4 T4 c0 c1 z0 z1)
        have hk4 : WkAt w4 (W.heap.size + 2) G (.slice x1 Ls.length y1) (.slice aT D.length cT) Ls D := WkAt.of (F1.out.base HB3z.out) (fun _ => OwnR.base13 (OwnR.kept HO3.out B4.out) (by rw [HSZ.out]; exact Nat.le_refl _)) (RowsAt.kept (OwnR.rows csSt_len HO3.out) B4.out)
          (fun x hx => ⟨((HDW.out.locks.each x hx).below B4.out), fun h0 k hk => ⟨HD.out.el x hx h0 k hk, by have := HD.out.lt k (HD.out.el x hx h0 k hk); omega⟩⟩)
          (fun x hx => by
            have hx2 : x ∈ Ss := by rw [← HDD.out] at hx; exact (List.mem_filter.1 hx).1
            exact ⟨((HDW.out.seats.each x hx2).below B4.out), .inl fun h0 k hk => ⟨HD.out.es x hx2 h0 k hk, by have := HD.out.lt k (HD.out.es x hx2 h0 k hk); omega⟩⟩)
        have hGb : ∀ k, W.heap.size ≤ k → ¬ G k := fun k hk hg => by have := HD.out.lt k hg; omega
        have hk7 := Lib.hid (((hk4.away ⟨W.heap.size, 0, none⟩ (.slice x1 Ls.length y1) ⟨hGb _ (Nat.le_refl _), by simp⟩).away ⟨W.heap.size, 1, none⟩ (.slice x2 Ss.length y2) ⟨hGb _ (Nat.le_refl _), by simp⟩).away ⟨W.heap.size, 1, none⟩ (.slice aT D.length cT) ⟨hGb _ (Nat.le_refl _), by simp⟩)
        have HT7 := Lib.hid ((HT4.out.turn (.slice x1 Ls.length y1) (.slice x2 Ss.length y2)).seats (.slice aT D.length cT))
        have hz7 : wr.heap.size ≤ (((w4.setCell ⟨W.heap.size, 0, none⟩ (.slice x1 Ls.length y1)).setCell ⟨W.heap.size, 1, none⟩ (.slice x2 Ss.length y2)).setCell ⟨W.heap.size, 1, none⟩ (.slice aT D.length cT)).heap.size := by rw [size_setCell, size_setCell, size_setCell]; exact B4.out.size
        have HZ7 := Lib.hid (Nat.le_trans HB3z.out hz7)
        clear hk4 hGb hz7 HO3 F1 F2 HT4
        go_wp2
        generalize ((w4.setCell ⟨W.heap.size, 0, none⟩ (.slice x1 Ls.length y1)).setCell ⟨W.heap.size, 1, none⟩ (.slice x2 Ss.length y2)).setCell ⟨W.heap.size, 1, none⟩ (.slice aT D.length cT) = w7 at *
        clear d0 d1 d2 d3
        go_loopw [9] (fun jv wq => ∃ (j : Nat) (Ls' : List Lr), j ≤ Ls.length ∧ jv = .int .i64 j ∧ Ls'.length = Ls.length ∧ Ls'.map lkp = (T.lvg t j).lks ∧ WkAt wq (W.heap.size + 2) G (.slice x1 Ls.length y1) (.slice aT D.length cT) Ls' D ∧ Two20 W (.slice x1 Ls.length y1) (.slice aT D.length cT) wq ∧ W.heap.size + 2 ≤ wq.heap.size) (fun jv _ => Ls.length - (intOf jv).toNat)
        case atStart => exact ⟨0, Ls, by omega, rfl, rfl, by rw [lvg_zero]; exact HD.out.le, hk7.out, HT7.out, HZ7.out⟩
        case round =>
          clear hk7 HT7 HZ7
          obtain ⟨j, Ls', hj, rfl, hln, hlk, hwk, htw, hz⟩ := hrel
          have HLN := Lib.hid hln
          have HLK := Lib.hid hlk
          have HWK := Lib.hid hwk
          have HTQ := Lib.hid htw
          have HZQ := Lib.hid hz
          have c0 := htw.box.cell 0 rfl
          have c1 := htw.box.cell 1 rfl
          by_cases hlt2 : j < Ls.length
          · have hi : j < Ls'.length := by omega
            have hne : Ls' ≠ [] := List.ne_nil_of_length_pos (by omega)
            have hi2 : j < T.ids.length := by rw [← lks_len HD.out.le]; exact hlt2
            have hat := lks_at (T := T.lvg t j) hlk j hi hi2
            obtain ⟨X, hX⟩ : ∃ X, Ls'[j] = X := ⟨_, rfl⟩
            have HXE := Lib.hid hX
            rw [hX] at hat
            obtain ⟨g, o, cc, e, _, _, hsp⟩ := OwnO.spot csL_len (hwk.lo hne).1 j hi
            rw [hln] at e
            cases e
            rw [hX] at hsp
            have hiw := (hwk.el Ls'[j] (List.getElem_mem hi)).1
            rw [hX] at hiw
            obtain ⟨xi, xh, xa, xc, xw⟩ := X
            have q0 := (hsp 0 _ rfl).1
            have q1 := (hsp 1 _ rfl).1
            have q2 := (hsp 2 _ rfl).1
            dsimp only [Lr.v] at q0 q1 q2 hiw
            rw [Nat.add_zero] at q0
            obtain ⟨e1, e2⟩ := lvg_at T (ris_nodup (may_ris HOK.out.may)) t j hi2
            have e3 : xi = T.ids[j] ∧ xh = T.hd T.ids[j] ∧ xw = T.wt T.ids[j] := by
              have hat2 : (xi, xh, xw) = (T.ids[j], (T.lvg t j).hd T.ids[j], (T.lvg t j).wt T.ids[j]) := hat
              rw [e1, e2] at hat2
              simp only [Prod.mk.injEq] at hat2
              exact hat2
            have hwl : xw.length ≤ 64 := by rw [e3.2.2]; exact HOK.out.wlen (List.getElem_mem hi2)
            have LV := Lib.hid fun (w' : World) (hb : Below wr.heap.size wr w') => refLeave19_any xi xh t (.slice xa xw.length xc) xw w' (hiw.below hb) (by omega)
            obtain ⟨h2, hh2⟩ : ∃ h2, (leaveL xh xw t).1 = h2 := ⟨_, rfl⟩
            obtain ⟨L2, hL2⟩ : ∃ L2, (leaveL xh xw t).2.1 = L2 := ⟨_, rfl⟩
            obtain ⟨er, her⟩ : ∃ er, (leaveL xh xw t).2.2 = er := ⟨_, rfl⟩
            rw [hh2, hL2, her] at LV
            have HNL := Lib.hid (show xi = T.ids[j] ∧ h2 = (T.lvg t (j + 1)).hd T.ids[j] ∧ L2 = (T.lvg t (j + 1)).wt T.ids[j] from by
              obtain ⟨f1, f2⟩ := lvg_next T t j hi2
              rw [f1, f2, ← e3.2.1, ← e3.2.2]
              exact ⟨e3.1, hh2.symm, hL2.symm⟩)
            obtain ⟨m, hm⟩ : ∃ m, L2.length = m := ⟨_, rfl⟩
            have HM := Lib.hid hm
            have HDR := Lib.hid ((Below.refl wr.heap.size wr).drew)
            have HZD := Lib.hid fun (w5 : World) (hb5 : Below wr.heap.size wr w5) => (show w5.frozen? ⟨g, o + j * 3, none⟩ = false ∧ w5.frozen? ⟨g, o + j * 3 + 1, none⟩ = false ∧ w5.frozen? ⟨g, o + j * 3 + 2, none⟩ = false ∧ w5.cell? ⟨g, o + j * 3, none⟩ = some (.int .i64 xi) ∧ w5.cell? ⟨g, o + j * 3 + 1, none⟩ = some (.int .i64 xh) ∧ w5.cell? ⟨g, o + j * 3 + 2, none⟩ = some (.slice xa xw.length xc) from by
              have k5 := HWK.out.kept hb5
              obtain ⟨g', o', cc', e, _, _, hsp5⟩ := OwnO.spot csL_len (k5.lo hne).1 j hi
              rw [HLN.out] at e
              cases e
              rw [HXE.out] at hsp5
              exact ⟨(hsp5 0 _ rfl).2, (hsp5 1 _ rfl).2, (hsp5 2 _ rfl).2, (hsp5 0 _ rfl).1, (hsp5 1 _ rfl).1, (hsp5 2 _ rfl).1⟩)
            have HI := Lib.hid hi
            have HI2 := Lib.hid hi2
            have HLT2 := Lib.hid hlt2
            have k2 : (0 : Int) ≤ (j : Int) := by omega
            have k3 : (j : Int) < (Ls.length : Int) := by omega
            have k4 : (j : Int) ≤ 1000 := by have := HL1.out; omega
            clear hln hlk hwk htw hz hlt2 hat hX hsp hiw e1 e2 e3 hwl hh2 hL2 her hm hj
            go_upto_region 13 with fail
            go_region_law (first
              | (go_simp; go_at_call 43; (with_reducible refine (LV.out _ HDR.out).mono ?_); rintro e w5 ⟨v5, rfl, h5, h6, hb5⟩; obtain ⟨y5, y6, e5⟩ := h5.form; rw [HM.out] at e5; subst e5; rw [HM.out] at h6; have hb5 := (HDR.out.trans hb5); have HB5 := Lib.hid hb5; have U0 := (hb5.cell (World.block_lt_of_cell? _ _ c0)).trans c0; obtain ⟨z0, z1, z2, d0, d1, d2⟩ := HZD.out w5 hb5; have H5 := Lib.hid h5; have H6 := Lib.hid h6; clear hb5 h5 h6))
            all_goals (
              have hWP := HWK.out.put HB5.out HZQ.out j HI.out ⟨xi, h2, y5, y6, L2⟩ (by dsimp only [Lr.v]; rw [HM.out]; exact H5.out) (by rw [HXE.out]; dsimp only [Lr.v]; rw [HM.out]; exact H6.out) rfl
              dsimp only [Lr.v] at hWP
              rw [HM.out] at hWP
              have HWP := Lib.hid hWP
              have HT9 := Lib.hid (HTQ.out.only HWP.out.2 fun k hk => (HWK.out.lo hne).2 k hk)
              have HLK9 := Lib.hid (lks_set HLK.out (ris_nodup (may_ris HOK.out.may)) j HI2.out ⟨xi, h2, y5, y6, L2⟩ (T.lvg t (j + 1)) rfl (by show (xi, h2, L2) = _; rw [HNL.out.1, HNL.out.2.1, HNL.out.2.2]; rfl) fun a ha => lvg_other T t j HI2.out a ha)
              clear hWP z0 z1 z2 d0 d1 d2 U0 c0 c1 q0 q1 q2
              go_wp2
              go_roundw
              case rel => exact ⟨j + 1, _, by have := HLT2.out; omega, by go_num, by rw [List.length_set]; exact HLN.out, HLK9.out, HWP.out.1, HT9.out, Nat.le_trans HZQ.out HWP.out.2.size⟩
              case measure => have := HLT2.out; simp [intOf] <;> omega)
          · have hje : j = Ls.length := by omega
            have HJE := Lib.hid hje
            have z0 := htw.ans.free 0 rfl
            have z1 := htw.ans.free 1 rfl
            have n0 := htw.ans.cell 0 rfl
            have n1 := htw.ans.cell 1 rfl
            obtain ⟨U, hBF⟩ := htw.put (.slice x1 Ls.length y1) (.slice aT D.length cT)
            have r0 := U.cell 0 rfl
            have r1 := U.cell 1 rfl
            have hGb : ∀ k, G k → k < W.heap.size := HD.out.lt
            have HUS := Lib.hid (show ∀ p : Addr, p.block = W.heap.size + 1 → ¬ G p.block ∧ p.block < W.heap.size + 2 from fun p hp => ⟨fun hg => by have := hGb _ hg; omega, by omega⟩)
            have hWF := (HWK.out.away ⟨W.heap.size + 1, 0, none⟩ (.slice x1 Ls.length y1) (HUS.out _ rfl)).away ⟨W.heap.size + 1, 1, none⟩ (.slice aT D.length cT) (HUS.out _ rfl)
            have HDF := Lib.hid (hWF.doc (T := T') (fun k hk => by have := hGb k hk; rw [size_setCell, size_setCell]; have := HZQ.out; omega) (by rw [HLK.out, HJE.out, lks_len HD.out.le, lvg_end HIN.out, HT'.out]) (by
              rw [← HDD.out]
              refine dropS_map HD.out.se t T' ?_ ?_ ?_ <;> (rw [← HT'.out]; unfold Tb.leave; rw [if_pos HIN.out])))
            have HBF := Lib.hid hBF
            have HRT := Lib.hid (show true = r by rw [← HR.out, decide_eq_true HIN.out])
            have g2 : ¬ (j : Int) < (Ls.length : Int) := by omega
            clear hln hlk hwk htw hz hlt2 hje U hBF hGb hWF hj
            go_wp2
            refine bodyPost_ret (v := .tuple #[tbv (.slice x1 Ls.length y1) (.slice aT D.length cT), .bool true]) ?_ rfl ⟨_, _, congrArg (fun b => Ending.returned (.tuple #[tbv (.slice x1 Ls.length y1) (.slice aT D.length cT), .bool b])) HRT.out, _, HDF.out, fun k hk => hk.imp (fun h => h) (fun h => by omega), HBF.out⟩
            simp [results, Tryz.results12, go_sem, r0, r1]
      · have hlen : (D.length : Int) = (Ss.length : Int) := by
          rw [← HDD.out, dropS_all (by rw [sts_toks HD.out.se]; exact hin)]
        have hDS : D = Ss := by rw [← HDD.out, dropS_all (by rw [sts_toks HD.out.se]; exact hin)]
        subst hDS
        have HRF := Lib.hid (show false = r by rw [← HR.out, decide_eq_false hin])
        have HTT := Lib.hid (show T = T' by rw [← HT'.out]; unfold Tb.leave; rw [if_neg hin])
        clear hin hlen
        go_upto_region 9 with (go_at_call 39; (with_reducible refine CP.out.mono ?_); rintro e w4 ⟨v1, v2, rfl, f1, f2, b4⟩; have F1 := Lib.hid f1; have F2 := Lib.hid f2; have B4 := Lib.hid b4; obtain ⟨x1, y1, e1⟩ := f1.form csL_len; obtain ⟨x2, y2, e2⟩ := f2.form csSt_len; subst e1 e2; have T4 := HTW2.out.kept b4; have d0 := T4.box.cell 0 rfl; have d1 := T4.box.cell 1 rfl; have d2 := T4.box.free 0 rfl; have d3 := T4.box.free 1 rfl; have HT4 := Lib.hid T4; clear f1 f2 b4 T4 c0 c1 z0 z1)
        have hk4 : WkAt w4 (W.heap.size + 2) G (.slice x1 Ls.length y1) (.slice aT D.length cT) Ls D := WkAt.of (F1.out.base HB3z.out) (fun _ => OwnR.base13 (OwnR.kept HO3.out B4.out) (by rw [HSZ.out]; exact Nat.le_refl _)) (RowsAt.kept (OwnR.rows csSt_len HO3.out) B4.out)
          (fun x hx => ⟨((HDW.out.locks.each x hx).below B4.out), fun h0 k hk => ⟨HD.out.el x hx h0 k hk, by have := HD.out.lt k (HD.out.el x hx h0 k hk); omega⟩⟩)
          (fun x hx => ⟨((HDW.out.seats.each x hx).below B4.out), .inl fun h0 k hk => ⟨HD.out.es x hx h0 k hk, by have := HD.out.lt k (HD.out.es x hx h0 k hk); omega⟩⟩)
        have hGb : ∀ k, W.heap.size ≤ k → ¬ G k := fun k hk hg => by have := HD.out.lt k hg; omega
        have hk7 := Lib.hid ((((((hk4.away ⟨W.heap.size, 0, none⟩ (.slice x1 Ls.length y1) ⟨hGb _ (Nat.le_refl _), by simp⟩).away ⟨W.heap.size, 1, none⟩ (.slice x2 D.length y2) ⟨hGb _ (Nat.le_refl _), by simp⟩).away ⟨W.heap.size, 1, none⟩ (.slice aT D.length cT) ⟨hGb _ (Nat.le_refl _), by simp⟩).away ⟨W.heap.size + 1, 0, none⟩ (.slice x1 Ls.length y1) ⟨hGb _ (by simp), by simp⟩).away ⟨W.heap.size + 1, 1, none⟩ (.slice aT D.length cT) ⟨hGb _ (by simp), by simp⟩))
        have HDF := Lib.hid (hk7.out.doc (T := T') (fun k hk => by have := HD.out.lt k hk; rw [size_setCell, size_setCell, size_setCell, size_setCell, size_setCell]; have := B4.out.size; have := HB3z.out; omega) (by rw [← HTT.out]; exact HD.out.le) (by rw [← HTT.out]; exact HD.out.se))
        have hT7 := (HT4.out.turn (.slice x1 Ls.length y1) (.slice x2 D.length y2)).seats (.slice aT D.length cT)
        obtain ⟨U, hBF⟩ := hT7.put (.slice x1 Ls.length y1) (.slice aT D.length cT)
        have z0 := hT7.ans.free 0 rfl
        have z1 := hT7.ans.free 1 rfl
        have n0 := hT7.ans.cell 0 rfl
        have n1 := hT7.ans.cell 1 rfl
        have u0 := hT7.box.cell 0 rfl
        have u1 := hT7.box.cell 1 rfl
        have r0 := U.cell 0 rfl
        have r1 := U.cell 1 rfl
        have HBF := Lib.hid hBF
        clear hk4 hGb hk7 hT7 U hBF
        go_wp2
        generalize ((w4.setCell ⟨W.heap.size, 0, none⟩ (.slice x1 Ls.length y1)).setCell ⟨W.heap.size, 1, none⟩ (.slice x2 D.length y2)).setCell ⟨W.heap.size, 1, none⟩ (.slice aT D.length cT) = w7 at *
        clear d0 d1 d2 d3
        go_loopg [9] 1 (fun kx iv wq => kx = 1 ∧ iv = .int .i64 0 ∧ wq = w7)
        case atStart => exact ⟨rfl, rfl, rfl⟩
        case round =>
        obtain ⟨rfl, rfl, rfl⟩ := hrel
        go_wp2
        all_goals
          refine bodyPost_ret (v := .tuple #[tbv (.slice x1 Ls.length y1) (.slice aT D.length cT), .bool false]) ?_ rfl ⟨_, _, congrArg (fun b => Ending.returned (.tuple #[tbv (.slice x1 Ls.length y1) (.slice aT D.length cT), .bool b])) HRF.out, _, HDF.out, fun k hk => hk.imp (fun h => h) (fun h => by omega), HBF.out⟩
          simp [results, Tryz.results12, go_sem, r0, r1]
end Go.Proofs.YtbkoogffnchldaaGreat
/- Stage 20: a table that is worked on, and a list of grants beside it; ask as a whole. -/
namespace Go.Proofs.YtbkoogffnchldaaGreat
open Go.RowKit

/-- a table that is worked on, and a list of grants beside it -/
structure WkG (w : World) (B : Nat) (G : Nat → Prop) (vl vs : Value) (Ls : List Lr) (Ss : List Sr) (gv : Value) (gl : List (Int × Int)) : Prop where
  wk : WkAt w B G vl vs Ls Ss
  own : OwnR w B 97 2 csG gv gl
  ol : ∀ k, gv.ownBlock = some k → (Ls ≠ [] → vl.ownBlock ≠ some k) ∧ (Ss ≠ [] → vs.ownBlock ≠ some k)
  oe : ∀ k, gv.ownBlock = some k → (∀ x ∈ Ls, 0 < x.wait.length → x.v.ownBlock ≠ some k) ∧ ∀ x ∈ Ss, 0 < x.want.length → x.v.ownBlock ≠ some k
section
variable {w w1 w' : World} {B : Nat} {G : Nat → Prop} {vl vs gv : Value} {Ls : List Lr} {Ss : List Sr} {gl : List (Int × Int)}
theorem WkG.kept (h : WkG w B G vl vs Ls Ss gv gl) (hb : Below w.heap.size w w') : WkG w' B G vl vs Ls Ss gv gl := ⟨h.wk.kept hb, OwnR.kept h.own hb, h.ol, h.oe⟩
/-- a lock is written -/
theorem WkG.next (h : WkG w B G vl vs Ls Ss gv gl) (i : Nat) (hi : i < Ls.length) (x : Lr) (hf : FromV Ls[i].v x.v Ls[i].wait.length x.wait.length w.heap.size) (hwk : WkAt w' B G vl vs (Ls.set i x) Ss) (ho : Only (fun k => vl.ownBlock = some k) w w') : WkG w' B G vl vs (Ls.set i x) Ss gv gl := by
  refine ⟨hwk, OwnR.sameB h.own fun k hk => ho.block k (h.own.lt k hk).2 fun e => (h.ol k hk).1 (List.ne_nil_of_length_pos (by omega)) e, fun k hk => ⟨fun _ => (h.ol k hk).1 (List.ne_nil_of_length_pos (by omega)), (h.ol k hk).2⟩, fun k hk => ⟨fun y hy h0 e => ?_, (h.oe k hk).2⟩⟩
  rcases List.mem_or_eq_of_mem_set hy with hy | rfl
  · exact (h.oe k hk).1 y hy h0 e
  · rcases hf h0 k e with ⟨h1, h2⟩ | h1
    · exact (h.oe k hk).1 _ (List.getElem_mem hi) h2 h1
    · have := (h.own.lt k hk).2
      omega
theorem WkG.inc (h : WkG w B G vl vs Ls Ss gv gl) (i : Nat) (hi : i < Ss.length) (n' : Int) {g o n c : Nat} (hv : vs = .slice (some ⟨g, o, none⟩) n c) :
    WkG (w.setCell ⟨g, o + i * 3 + 1, none⟩ (.int .i64 n')) B G vl vs Ls (Ss.set i { Ss[i] with got := n' }) gv gl ∧ Only (fun k => vs.ownBlock = some k) w (w.setCell ⟨g, o + i * 3 + 1, none⟩ (.int .i64 n')) := by
  obtain ⟨h1, h2⟩ := h.wk.inc i hi n' hv
  refine ⟨⟨h1, OwnR.sameB h.own fun k hk => h2.block k (h.own.lt k hk).2 fun e => (h.ol k hk).2 (List.ne_nil_of_length_pos (by omega)) e, fun k hk => ⟨(h.ol k hk).1, fun _ => (h.ol k hk).2 (List.ne_nil_of_length_pos (by omega))⟩, fun k hk => ⟨(h.oe k hk).1, fun y hy h0 e => ?_⟩⟩, h2⟩
  rcases List.mem_or_eq_of_mem_set hy with hy | rfl
  · exact (h.oe k hk).2 y hy h0 e
  · exact (h.oe k hk).2 _ (List.getElem_mem hi) h0 e
/-- a grant more -/
theorem WkG.more (h : WkG w B G vl vs Ls Ss gv gl) {gv' : Value} {gl' : List (Int × Int)} (ho : OwnR w' B 97 2 csG gv' gl') (hm : Only (fun k => gv.ownBlock = some k) w w') (hv : ∀ k, gv'.ownBlock = some k → gv.ownBlock = some k ∨ w.heap.size ≤ k) : WkG w' B G vl vs Ls Ss gv' gl' := by
  have hb := h.wk
  have hs : ∀ k, k < w.heap.size → gv.ownBlock ≠ some k → w'.heap[k]? = w.heap[k]? := fun k hk hn => hm.block k hk hn
  have nl : Ls ≠ [] → ∀ k, vl.ownBlock = some k → gv.ownBlock ≠ some k := fun h0 k hk e => (h.ol k e).1 h0 hk
  have ns : Ss ≠ [] → ∀ k, vs.ownBlock = some k → gv.ownBlock ≠ some k := fun h0 k hk e => (h.ol k e).2 h0 hk
  refine ⟨⟨hb.lr.same hm.size fun h0 g hg => hs g (hb.lr.lt h0 g hg) (nl (List.length_pos_iff.1 h0) g hg), fun h0 => ⟨(hb.lo h0).1.same hm.size fun g hg => hs g ((hb.lo h0).1.lt g hg) (nl h0 g hg), (hb.lo h0).2⟩, hb.sr.same hm.size fun h0 g hg => hs g (hb.sr.lt h0 g hg) (ns (List.length_pos_iff.1 h0) g hg), fun h0 => ⟨(hb.so h0).1.same hm.size fun g hg => hs g ((hb.so h0).1.lt g hg) (ns h0 g hg), (hb.so h0).2⟩, hb.ne,
    fun x hx => ⟨(hb.el x hx).1.same hm.size fun h0 k hk => hs k ((hb.el x hx).1.lt h0 k hk) fun e => (h.oe k e).1 x hx h0 hk, (hb.el x hx).2⟩, fun x hx => ⟨(hb.es x hx).1.same hm.size fun h0 k hk => hs k ((hb.es x hx).1.lt h0 k hk) fun e => (h.oe k e).2 x hx h0 hk, (hb.es x hx).2⟩⟩, ho, fun k hk => ?_, fun k hk => ?_⟩
  · rcases hv k hk with e | e
    · exact h.ol k e
    · refine ⟨fun h0 e2 => ?_, fun h0 e2 => ?_⟩
      · have := (hb.lo h0).1.lt k e2
        omega
      · have := (hb.so h0).1.lt k e2
        omega
  · rcases hv k hk with e | e
    · exact h.oe k e
    · refine ⟨fun x hx h0 e2 => ?_, fun x hx h0 e2 => ?_⟩
      · have := (hb.el x hx).1.lt h0 k e2
        omega
      · have := (hb.es x hx).1.lt h0 k e2
        omega
end


theorem OkX.wantlen {T : Tb} {x : Option Int} (h : OkX T x) {t : Int} (ht : t ∈ T.toks) : (T.want t).length ≤ 32 :=
  Nat.le_trans (len_of_sub (T.want t) T.ids (ris_nodup (h.wr _ ht)) (h.win _ ht)) (may_len h.may)
/-- ask, as it is done to a table that is right but for the one that asks -/
theorem refAsk20_any {B : Nat} {G : Nat → Prop} {vl vs : Value} {Ls : List Lr} {Ss : List Sr} {W : World} {T : Tb} {t : Int} (K : WkAt W B G vl vs Ls Ss) (hB : B ≤ W.heap.size) (le : Ls.map lkp = T.lks) (hok : OkX T (some t)) (s : Sr) (hs : stp s = (t, (T.got t : Int), T.want t)) (hsi : IntsAt W s.v s.want) :
    Calls Tryz.prog 40 #[tbv vl vs, s.val] W fun e w' => e = .returned (.tuple #[]) ∧
      ∃ Ls', Ls'.length = Ls.length ∧ Ls'.map lkp = (T.ask t).lks ∧ WkAt w' B G vl vs Ls' Ss ∧ Only (fun k => Ls ≠ [] ∧ vl.ownBlock = some k) W w' ∧ ∀ gv gl, WkG W B G vl vs Ls Ss gv gl → WkG w' B G vl vs Ls' Ss gv gl := by
  obtain ⟨ht, _⟩ := hok.off t rfl
  have hL1 : Ls.length ≤ 1000 := by rw [lks_len le]; have := may_len hok.may; omega
  obtain ⟨al, cl, evl⟩ := RowsAt.form K.lr
  obtain ⟨a2, cs, evs⟩ := RowsAt.form K.sr
  obtain ⟨tok, got, a, c, want⟩ := s
  have hs : (tok, got, want) = (t, (T.got t : Int), T.want t) := hs
  simp only [Prod.mk.injEq] at hs
  obtain ⟨rfl, rfl, rfl⟩ := hs
  have hwl := hok.wantlen ht
  cases hn : T.nx tok with
  | none =>
    rw [Tb.ask_none hn]
    have hg : T.got tok = (T.want tok).length := by
      have h1 := hok.gl _ ht
      have h2 := List.getElem?_eq_none_iff.1 hn
      omega
    refine (refAskNone_any vl vs ⟨_, _, _, evl⟩ ⟨_, _, _, evs⟩ _ (by simp only; rw [hg]) W).mono ?_
    rintro e w' ⟨rfl, hb⟩
    exact ⟨rfl, Ls, rfl, le, K.kept hb, Only.of_below hb, fun gv gl hw => hw.kept hb⟩
  | some id =>
    rw [Tb.ask_some hn]
    obtain ⟨hg, hge⟩ := nx_at hn
    have hi := hok.nx_ids ht hn
    obtain ⟨i, hi2, hie⟩ := List.getElem_of_mem hi
    have hi1 : i < Ls.length := by rw [lks_len le]; exact hi2
    have hnd := ris_nodup (may_ris hok.may)
    have hat := lks_at le i hi1 hi2
    have hpl : plcL (idsL Ls) (T.want tok)[T.got tok] = (i : Int) := by
      rw [lks_ids le, hge]
      exact plc_found hi2 hie (hie ▸ not_take hnd i hi2)
    obtain ⟨X, hX⟩ : ∃ X, Ls[i] = X := ⟨_, rfl⟩
    rw [hX] at hat
    obtain ⟨xi, xh, xa, xc, xw⟩ := X
    have hat : (xi, xh, xw) = (T.ids[i], T.hd T.ids[i], T.wt T.ids[i]) := hat
    rw [hie] at hat
    simp only [Prod.mk.injEq] at hat
    obtain ⟨rfl, rfl, rfl⟩ := hat
    have hne : Ls ≠ [] := List.ne_nil_of_length_pos (by omega)
    refine (refAskSome_any K hB ⟨tok, (T.got tok : Int), a, c, T.want tok⟩ hsi (T.got tok) rfl hg (by simp only; omega) hL1 i hi1 hpl xi (T.hd xi) xa xc (T.wt xi) hX (by have := hok.wlen hi; omega)).mono ?_
    rintro e w' ⟨rfl, x, h1, h2, h3, h4⟩
    refine ⟨rfl, Ls.set i x, by rw [List.length_set], lks_set le hnd i hi2 x _ rfl ?_ fun b hb => ⟨rfl, upF_ne _ _ (by rw [hie] at hb; exact hb)⟩, h3, h4.mono fun k hk => ⟨hne, hk⟩, fun gv gl hw => hw.next i hi1 x (by rw [hX]; exact h2) h3 h4⟩
    rw [h1]
    simp only [hie, upF_same]
end Go.Proofs.YtbkoogffnchldaaGreat
/- Stage 20: the document's New, Few; what its Tokens and Seated tell of a table. -/
namespace Go.Proofs.YtbkoogffnchldaaGreat
open Go.RowKit

/-! ### Acts -/
structure Ac where
  kind : Int
  token : Int
  a : Option Addr
  c : Nat
  want : List Int
deriving Inhabited
abbrev Ac.v (x : Ac) : Value := .slice x.a x.want.length x.c
def csAc (x : Ac) : List Value := [.int .i64 x.kind, .int .i64 x.token, x.v]
theorem csAc_len (x : Ac) : (csAc x).length = 3 := rfl
structure ActsAt (w : World) (v : Value) (l : List Ac) : Prop where
  rows : RowsAt w 3 csAc v l
  each : ∀ x ∈ l, IntsAt w x.v x.want
theorem ActsAt.below {w w' : World} {v : Value} {l : List Ac} (h : ActsAt w v l) (hb : Below w.heap.size w w') : ActsAt w' v l := ⟨RowsAt.kept h.rows hb, fun x hx => (h.each x hx).below hb⟩
theorem RowsAt.atA {w : World} {v : Value} {l : List Ac} (h : RowsAt w 3 csAc v l) (k : Nat) (hk : k < l.length) :
    ∃ g o c, v = .slice (some ⟨g, o, none⟩) l.length c ∧ l.length ≤ c ∧ g < w.heap.size ∧ w.cell? ⟨g, o + k * 3, none⟩ = some (.int .i64 l[k].kind) ∧ w.cell? ⟨g, o + k * 3 + 1, none⟩ = some (.int .i64 l[k].token) ∧ w.cell? ⟨g, o + k * 3 + 2, none⟩ = some l[k].v := by
  obtain ⟨g, o, c, e, hc, hg, hx⟩ := h.spot k hk
  exact ⟨g, o, c, e, hc, hg, hx 0 _ rfl, hx 1 _ rfl, hx 2 _ rfl⟩
def fewB (l : List Ac) (most : Int) : Bool := decide ((l.length : Int) ≤ most) && l.all fun x => decide (x.want.length ≤ 40)

set_option maxHeartbeats 2000000 in
set_option maxRecDepth 100000 in
theorem refFew20_any (va : Value) (l : List Ac) (most : Int) (W : World) (ha : RowsAt W 3 csAc va l) (hm : most ≤ 1000) :
    Calls Tryz.prog 4 #[va, .int .i64 most] W fun e w' => e = .returned (.bool (fewB l most)) ∧ Below W.heap.size W w' := by
  obtain ⟨r, hr⟩ : ∃ r, fewB l most = r := ⟨_, rfl⟩
  rw [hr]
  have HR := Lib.hid hr
  have HA := Lib.hid ha
  obtain ⟨a, c, rfl⟩ := RowsAt.form ha
  clear hr ha
  by_cases h1 : (l.length : Int) ≤ most
  · have k1 : ¬ most < (l.length : Int) := by omega
    have HL := Lib.hid (show l.length ≤ 1000 by omega)
    have HH1 := Lib.hid h1
    clear h1
    go_enter Tryz.func4, Tryz.ntmps4
    go_wp2
    go_loopg [5] l.length (fun kx iv wr => ∃ k : Nat, k ≤ l.length ∧ l.length - k ≤ kx ∧ iv = .int .i64 k ∧ Hid (∀ x ∈ l.take k, x.want.length ≤ 40) ∧ wr = W)
    case atStart => exact ⟨0, Nat.zero_le _, Nat.le_refl _, rfl, fun x hx => (by simp at hx), rfl⟩
    case round =>
      obtain ⟨k, hk, hkx, rfl, hall, rfl⟩ := hrel
      by_cases hlt : k < l.length
      · obtain ⟨g, o, cc, e, _, _, _, _, p2⟩ := RowsAt.atA HA.out k hlt
        cases e
        have j1 : (k : Int) < (l.length : Int) := by omega
        have j0 : (0 : Int) ≤ (k : Int) := by omega
        have j2 : (k : Int) ≤ 1000 := by have := HL.out; omega
        obtain ⟨x, hx⟩ : ∃ x, l[k] = x := ⟨_, rfl⟩
        rw [hx] at p2
        have hxm : x ∈ l := by rw [← hx]; exact List.getElem_mem hlt
        by_cases h40 : x.want.length ≤ 40
        · have HALL := Lib.hid (show ∀ y ∈ l.take (k + 1), y.want.length ≤ 40 from fun y hy => by
            rw [List.take_succ_eq_append_getElem hlt] at hy
            rcases List.mem_append.1 hy with hy | hy
            · exact hall.out y hy
            · rw [List.mem_singleton.1 hy, hx]; exact h40)
          have k40 : ¬ (40 : Int) < (x.want.length : Int) := by omega
          have HK := Lib.hid (And.intro hk (And.intro hkx hlt))
          clear hall hx hxm h40 hk hkx
          go_wp2
          go_roundg (l.length - (k + 1))
          case measure => have := HK.out; omega
          case rel => exact ⟨k + 1, by have := HK.out; omega, Nat.le_refl _, by go_num, HALL.out, rfl⟩
        · have HF := Lib.hid (show false = r by
            rw [← HR.out]
            unfold fewB
            rw [List.all_eq_false.2 ⟨x, hxm, by simpa using h40⟩, Bool.and_false])
          have k40 : (40 : Int) < (x.want.length : Int) := by omega
          clear hall hx hxm h40 hk hkx
          go_wp2
          go_ret
          exact ⟨ret_b HF.out, Below.refl _ _⟩
      · have hke : k = l.length := by omega
        have hall2 : ∀ x ∈ l, x.want.length ≤ 40 := by have := hall.out; rwa [hke, List.take_length] at this
        have HF := Lib.hid (show true = r by
          rw [← HR.out]
          unfold fewB
          rw [decide_eq_true HH1.out, List.all_eq_true.2 fun x hx => by simpa using hall2 x hx]
          rfl)
        have g2 : ¬ (k : Int) < (l.length : Int) := by omega
        clear hall hall2 hk hkx hlt hke
        go_wp2
        go_ret
        exact ⟨ret_b HF.out, Below.refl _ _⟩
  · have HF := Lib.hid (show false = r by rw [← HR.out]; unfold fewB; rw [decide_eq_false h1]; rfl)
    have k1 : most < (l.length : Int) := by omega
    clear h1
    go_enter Tryz.func4, Tryz.ntmps4
    go_wp2
    go_ret
    exact ⟨ret_b HF.out, Below.refl _ _⟩

/-! ### New -/
def newLs (l : List Int) : List Lr := l.map fun id => ⟨id, 0, none, 0, []⟩
theorem newLs_next (l : List Int) (i : Nat) (h : i < l.length) : newLs (l.take (i + 1)) = newLs (l.take i) ++ [⟨l[i], 0, none, 0, []⟩] := by
  unfold newLs
  rw [List.take_succ_eq_append_getElem h, List.map_append]
  rfl
theorem newLs_len (l : List Int) : (newLs l).length = l.length := by simp [newLs]
theorem filter_sts {Ss : List Sr} {T : Tb} (h : Ss.map stp = T.sts) (full : Bool) : tokensL Ss full = T.toks.filter fun t => !full || T.isFull t := by
  have e : tokensL Ss full = ((Ss.map stp).filter fun p => !full || decide (p.2.1 = (p.2.2.length : Int))).map Prod.fst := by
    unfold tokensL
    rw [List.filter_map, List.map_map]
    rfl
  rw [e, h]
  unfold Tb.sts
  rw [List.filter_map, List.map_map]
  have e2 : (Prod.fst ∘ fun t => (t, (T.got t : Int), T.want t)) = id := rfl
  rw [e2, List.map_id]
  congr 1
  funext t
  show (!full || decide ((T.got t : Int) = ((T.want t).length : Int))) = (!full || decide (T.got t = (T.want t).length))
  rw [show decide ((T.got t : Int) = ((T.want t).length : Int)) = decide (T.got t = (T.want t).length) from decide_eq_decide.2 ⟨fun h => by omega, fun h => by omega⟩]
def Tb.fullL (T : Tb) : List Int := T.toks.filter T.isFull
theorem tokens_all {Ss : List Sr} {T : Tb} (h : Ss.map stp = T.sts) : tokensL Ss false = T.toks := by
  rw [filter_sts h]
  simp
theorem tokens_full {Ss : List Sr} {T : Tb} (h : Ss.map stp = T.sts) : tokensL Ss true = T.fullL := by
  rw [filter_sts h]
  simp [Tb.fullL]
end Go.Proofs.YtbkoogffnchldaaGreat
/- Stage 20's program: Full, Tokens; the next ask; all locks, one behind the other. -/
namespace Go.Proofs.YtbkoogffnchldaaGreat
open Go.RowKit Go.Maps

section
variable {b ml mc : Nat} {pt : Int → Nat} {Gf : Int → Nat → Prop} {cl : Int → Cl} {F : Nat → Prop} {w : World} {T : Tb}
theorem TbR.isFull (h : TbR b ml mc pt Gf cl F w T) {t : Int} (ht : t ∈ T.toks) : decide ((cl t).held = ((cl t).n : Int)) = T.isFull t := by
  obtain ⟨h1, h2, _⟩ := h.ch t ht
  rw [h1, h2]
  unfold Tb.isFull
  exact decide_eq_decide.2 ⟨fun h => by omega, fun h => by omega⟩
set_option maxHeartbeats 1000000 in
theorem tFullN_any (h : TbR b ml mc pt Gf cl F w T) (hok : T.Ok) : Calls Tryz.prog 18 #[ptr18 b] w fun e w' => ∃ v, e = .returned v ∧ IntsAt w' v T.fullL ∧ (∀ k, v.ownBlock = some k → w.heap.size ≤ k) ∧ Below w.heap.size w w' := by
  have H := tThose_any 52 (fun _ _ => by kernel_rfl) (fun x => decide (x.held = (x.n : Int))) tIsFull_any h hok
  rw [List.filter_congr fun t ht => h.isFull ht] at H
  have HT := Lib.hid (show Calls Tryz.prog 51 #[ptr18 b, .func (.func 52) #[] #[]] w fun e w' => ∃ v, e = .returned v ∧ IntsAt w' v T.fullL ∧ (∀ k, v.ownBlock = some k → w.heap.size ≤ k) ∧ Below w.heap.size w w' from H)
  clear h hok H
  go_enter Tryz.func18, Tryz.ntmps18
  go_wp2_with (go_at_call 51; (with_reducible refine HT.out.mono ?_); rintro e w1 ⟨v1, rfl, h1, n1, b1⟩; have H1 := Lib.hid h1; have HN1 := Lib.hid n1; have HB1 := Lib.hid b1; clear h1 n1 b1)
  go_ret
  exact ⟨_, rfl, H1.out, HN1.out, HB1.out⟩
theorem tFull_any (h : TbR b ml mc pt Gf cl F w T) (hok : T.Ok) : Calls Tryz.prog 18 #[ptr18 b] w fun e w' => ∃ v, e = .returned v ∧ IntsAt w' v T.fullL ∧ Below w.heap.size w w' :=
  (tFullN_any h hok).mono fun _ _ ⟨v, h1, h2, _, h3⟩ => ⟨v, h1, h2, h3⟩
set_option maxHeartbeats 1000000 in
theorem tTokensW_any (h : TbR b ml mc pt Gf cl F w T) (hok : (∀ x, x ∈ T.toks → I64 x) ∧ risL T.toks ∧ T.toks.length ≤ 64) : Calls Tryz.prog 22 #[ptr18 b] w fun e w' => ∃ v, e = .returned v ∧ IntsAt w' v T.toks ∧ Below w.heap.size w w' := by
  have H := tThoseW_any 52 (fun _ _ => by kernel_rfl) (fun x => decide (x.held = (x.n : Int))) tIsFull_any h hok
  have H2 := fun (w' : World) (hb : Below w.heap.size w w') => tThoseW_any 57 (fun _ _ => by kernel_rfl) (fun x => !decide (x.held = (x.n : Int))) tWaits_any (h.kept hb) hok
  obtain ⟨A, hA⟩ : ∃ A, T.toks.filter (fun t => decide ((cl t).held = ((cl t).n : Int))) = A := ⟨_, rfl⟩
  obtain ⟨B, hB⟩ : ∃ B, T.toks.filter (fun t => !decide ((cl t).held = ((cl t).n : Int))) = B := ⟨_, rfl⟩
  rw [hA] at H
  rw [hB] at H2
  have HOR := Lib.hid (show orL A B = T.toks from setL_of hok.2.1 fun x => by
    rw [← hA, ← hB, List.mem_append, List.mem_filter, List.mem_filter]
    cases decide ((cl x).held = ((cl x).n : Int)) <;> simp)
  have HLN := Lib.hid (show A.length ≤ 64 ∧ B.length ≤ 64 from ⟨by rw [← hA]; exact Nat.le_trans (List.length_filter_le _ _) hok.2.2, by rw [← hB]; exact Nat.le_trans (List.length_filter_le _ _) hok.2.2⟩)
  have HT := Lib.hid H
  have HT2 := Lib.hid H2
  clear h hok H H2 hA hB
  go_enter Tryz.func22, Tryz.ntmps22
  go_wp2_with (first
    | (go_at_call 51; (with_reducible refine HT.out.mono ?_); rintro e w1 ⟨v1, rfl, h1, _, b1⟩; have H1 := Lib.hid h1; have HB1 := Lib.hid b1; clear h1 b1)
    | (go_at_call 51; (with_reducible refine (HT2.out _ HB1.out).mono ?_); rintro e w2 ⟨v2, rfl, h2, _, b2⟩; have OR := Lib.hid (iOr_any v1 v2 A B w2 (H1.out.below b2) h2 (by have := HLN.out.1; omega) (by have := HLN.out.2; omega)); rw [HOR.out] at OR; have HB2 := Lib.hid (HB1.out.trans (b2.mono HB1.out.size)); clear h2 b2)
    | (go_at_call 56; (with_reducible refine OR.out.mono ?_); rintro e w3 ⟨v3, rfl, h3, b3⟩; have H3 := Lib.hid h3; have HB3 := Lib.hid (HB2.out.trans (b3.mono HB2.out.size)); clear h3 b3))
  go_ret
  exact ⟨_, rfl, H3.out, HB3.out⟩
theorem tTokens_any (h : TbR b ml mc pt Gf cl F w T) (hok : T.Ok) : Calls Tryz.prog 22 #[ptr18 b] w fun e w' => ∃ v, e = .returned v ∧ IntsAt w' v T.toks ∧ Below w.heap.size w w' := tTokensW_any h hok.toks3
end
set_option maxHeartbeats 1000000 in
theorem tThose_nil (f : Value) (w : World) : Calls Tryz.prog 51 #[.pointer none, f] w fun e w' => e = .returned (.slice none 0 0) ∧ Below w.heap.size w w' := by
  go_enter Tryz.func51, Tryz.ntmps51
  go_wp2
  go_ret
  exact ⟨rfl, Below.refl _ _⟩
set_option maxHeartbeats 1000000 in
theorem tTokens_nil (w : World) : Calls Tryz.prog 22 #[.pointer none] w fun e w' => ∃ v, e = .returned v ∧ IntsAt w' v [] ∧ Below w.heap.size w w' := by
  have HT := Lib.hid tThose_nil
  have HOR := Lib.hid fun w => iOr_any (.slice none 0 0) (.slice none 0 0) [] [] w (IntsAt.nil w) (IntsAt.nil w) (by simp) (by simp)
  have e0 : orL [] [] = [] := rfl
  rw [e0] at HOR
  clear e0
  go_enter Tryz.func22, Tryz.ntmps22
  go_wp2_with (first
    | (go_at_call 51; (with_reducible refine (HT.out (.func (.func 52) #[] #[]) _).mono ?_); rintro e w1 ⟨rfl, b1⟩; have HB1 := Lib.hid b1; clear b1)
    | (go_at_call 51; (with_reducible refine (HT.out (.func (.func 57) #[] #[]) _).mono ?_); rintro e w2 ⟨rfl, b2⟩; have HB2 := Lib.hid (HB1.out.trans (b2.mono HB1.out.size)); clear b2)
    | (go_at_call 56; (with_reducible refine (HOR.out _).mono ?_); rintro e w3 ⟨v3, rfl, h3, b3⟩; have H3 := Lib.hid h3; have HB3 := Lib.hid (HB2.out.trans (b3.mono HB2.out.size)); clear h3 b3))
  go_ret
  exact ⟨_, rfl, H3.out, HB3.out⟩
end Go.Proofs.YtbkoogffnchldaaGreat
