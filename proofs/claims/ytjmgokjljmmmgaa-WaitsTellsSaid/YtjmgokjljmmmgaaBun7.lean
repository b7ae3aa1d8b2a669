/- Texts of this proof, joined: AisRefA; AisRefB; AisRefC; FifoLawF; Labels; SatMath; SatA; SatB; SatRef; FifoLawD; LockRefG; AisAsk; AisRefF. -/
import Derived.Test.YtjmgokjljmmmgaaBun6
import Derived.BigRegion
import Derived.Deep.AppendLies
import Derived.Deep.RegionLaw
import Derived.Deep.DeepCutAuto
import Derived.Test.YtjmgokjljmmmgaaRows
import Derived.WalkKit
import Derived.Deep.LoopGhost
import Derived.WalkSpells
import Derived.WalkLawsBesides
import Derived.Lib.Hide
import Derived.Lib.MinMax
import Derived.Below
import Derived.Deep.QuietTactic
import Derived.BigQuiet
import Derived.Deep.CutBlock
/- Stage 20: a table of the document's in memory while it is worked on: its rows are its own; ask. -/
namespace Go.Proofs.Ytjmgokjljmmmgaa
open Go.RowKit

def lkp (x : Lr) : Int × Int × List Int := (x.id, x.holder, x.wait)
def stp (x : Sr) : Int × Int × List Int := (x.token, x.got, x.want)
def Tb.lks (T : Tb) : List (Int × Int × List Int) := T.ids.map fun id => (id, T.hd id, T.wt id)
def Tb.sts (T : Tb) : List (Int × Int × List Int) := T.toks.map fun t => (t, (T.got t : Int), T.want t)
abbrev Lr.val (x : Lr) : Value := .agg #[.int .i64 x.id, .int .i64 x.holder, x.v]
abbrev Sr.val (x : Sr) : Value := .agg #[.int .i64 x.token, .int .i64 x.got, x.v]
theorem csL_one1 (x : Lr) : ∀ u ∈ csL x, u.oneCell' = true := csL_one x

/-- its rows are new (from B on) and may be written; its lists lie apart from them, in G or new -/
structure WkAt (w : World) (B : Nat) (G : Nat → Prop) (vl vs : Value) (Ls : List Lr) (Ss : List Sr) : Prop where
  lr : RowsAt w 3 csL vl Ls
  lo : Ls ≠ [] → OwnO w 3 csL vl Ls ∧ ∀ g, vl.ownBlock = some g → B ≤ g
  sr : RowsAt w 3 csSt vs Ss
  so : Ss ≠ [] → OwnO w 3 csSt vs Ss ∧ ∀ g, vs.ownBlock = some g → B ≤ g
  ne : Ls ≠ [] → Ss ≠ [] → vl.ownBlock ≠ vs.ownBlock
  el : ∀ x ∈ Ls, IntsAt w x.v x.wait ∧ (0 < x.wait.length → ∀ k, x.v.ownBlock = some k → (G k ∨ B ≤ k) ∧ vl.ownBlock ≠ some k ∧ (Ss ≠ [] → vs.ownBlock ≠ some k))
  es : ∀ x ∈ Ss, IntsAt w x.v x.want ∧ (0 < x.want.length → ∀ k, x.v.ownBlock = some k → (G k ∨ B ≤ k) ∧ (Ls ≠ [] → vl.ownBlock ≠ some k) ∧ vs.ownBlock ≠ some k)
theorem IntsAt.lt {w : World} {v : Value} {l : List Int} (h : IntsAt w v l) (h0 : 0 < l.length) : ∀ k, v.ownBlock = some k → k < w.heap.size := h.rows.lt h0
theorem IntsAt.same {w w' : World} {v : Value} {l : List Int} (h : IntsAt w v l) (hz : w.heap.size ≤ w'.heap.size) (he : 0 < l.length → ∀ k, v.ownBlock = some k → w'.heap[k]? = w.heap[k]?) : IntsAt w' v l := (RowsAt.same h.rows hz fun h0 g hg => he h0 g hg).ints
section
variable {w w1 w' : World} {B : Nat} {G : Nat → Prop} {vl vs : Value} {Ls : List Lr} {Ss : List Sr}
/-- nothing of it has changed -/
theorem WkAt.same (h : WkAt w B G vl vs Ls Ss) (hz : w.heap.size ≤ w'.heap.size) (he : ∀ k, k < w.heap.size → (G k ∨ B ≤ k) → w'.heap[k]? = w.heap[k]?) : WkAt w' B G vl vs Ls Ss where
  lr := h.lr.same hz fun h0 g hg => he g (h.lr.lt h0 g hg) (.inr ((h.lo (List.length_pos_iff.1 h0)).2 g hg))
  lo h0 := ⟨(h.lo h0).1.same hz fun g hg => he g ((h.lo h0).1.lt g hg) (.inr ((h.lo h0).2 g hg)), (h.lo h0).2⟩
  sr := h.sr.same hz fun h0 g hg => he g (h.sr.lt h0 g hg) (.inr ((h.so (List.length_pos_iff.1 h0)).2 g hg))
  so h0 := ⟨(h.so h0).1.same hz fun g hg => he g ((h.so h0).1.lt g hg) (.inr ((h.so h0).2 g hg)), (h.so h0).2⟩
  ne := h.ne
  el x hx := ⟨(h.el x hx).1.same hz fun h0 k hk => he k ((h.el x hx).1.lt h0 k hk) ((h.el x hx).2 h0 k hk).1, (h.el x hx).2⟩
  es x hx := ⟨(h.es x hx).1.same hz fun h0 k hk => he k ((h.es x hx).1.lt h0 k hk) ((h.es x hx).2 h0 k hk).1, (h.es x hx).2⟩
theorem WkAt.kept (h : WkAt w B G vl vs Ls Ss) (hb : Below w.heap.size w w') : WkAt w' B G vl vs Ls Ss := h.same hb.size fun k hk _ => hb.block k hk
theorem WkAt.locks (h : WkAt w B G vl vs Ls Ss) : LocksAt w vl Ls := ⟨h.lr, fun x hx => (h.el x hx).1⟩
theorem WkAt.seats (h : WkAt w B G vl vs Ls Ss) : SeatsAt w vs Ss := ⟨h.sr, fun x hx => (h.es x hx).1⟩
/-- a store at a place that is none of its -/
theorem WkAt.away (h : WkAt w B G vl vs Ls Ss) (p : Addr) (u : Value) (hp : ¬ G p.block ∧ p.block < B) : WkAt (w.setCell p u) B G vl vs Ls Ss :=
  h.same (by simp [World.setCell]) fun k _ hk => Below.heap_setCell w p u k fun e => by
    subst e
    rcases hk with hk | hk
    · exact hp.1 hk
    · omega
/-- a lock is written -/
theorem WkAt.put (h : WkAt w B G vl vs Ls Ss) (hb : Below w.heap.size w w1) (hB : B ≤ w.heap.size) (i : Nat) (hi : i < Ls.length) (x : Lr) (hx : IntsAt w1 x.v x.wait) (hf : FromV Ls[i].v x.v Ls[i].wait.length x.wait.length w.heap.size)
    {g o n c : Nat} (hv : vl = .slice (some ⟨g, o, none⟩) n c) :
    WkAt (((w1.setCell ⟨g, o + i * 3, none⟩ (.int .i64 x.id)).setCell ⟨g, o + i * 3 + 1, none⟩ (.int .i64 x.holder)).setCell ⟨g, o + i * 3 + 2, none⟩ x.v) B G vl vs (Ls.set i x) Ss ∧
    Only (fun k => vl.ownBlock = some k) w (((w1.setCell ⟨g, o + i * 3, none⟩ (.int .i64 x.id)).setCell ⟨g, o + i * 3 + 1, none⟩ (.int .i64 x.holder)).setCell ⟨g, o + i * 3 + 2, none⟩ x.v) := by
  have hne : Ls ≠ [] := List.ne_nil_of_length_pos (by omega)
  have hne2 : Ls.set i x ≠ [] := List.ne_nil_of_length_pos (by rw [List.length_set]; omega)
  have k1 := h.kept hb
  have hgo : vl.ownBlock = some g := by rw [hv]; rfl
  have hz : w1.heap.size ≤ (((w1.setCell ⟨g, o + i * 3, none⟩ (.int .i64 x.id)).setCell ⟨g, o + i * 3 + 1, none⟩ (.int .i64 x.holder)).setCell ⟨g, o + i * 3 + 2, none⟩ x.v).heap.size := by simp [World.setCell]
  have hout : ∀ k, k ≠ g → (((w1.setCell ⟨g, o + i * 3, none⟩ (.int .i64 x.id)).setCell ⟨g, o + i * 3 + 1, none⟩ (.int .i64 x.holder)).setCell ⟨g, o + i * 3 + 2, none⟩ x.v).heap[k]? = w1.heap[k]? := fun k hk => by
    rw [Below.heap_setCell _ _ _ _ hk, Below.heap_setCell _ _ _ _ hk, Below.heap_setCell _ _ _ _ hk]
  have hown := ((k1.lo hne).1)
  rw [hv] at hown
  have hp := OwnO.put3 csL_len hown i hi x _ _ _ rfl
  rw [← hv] at hp
  have hgz : g < w.heap.size := (h.lo hne).1.lt g hgo
  refine ⟨⟨OwnO.rows csL_len hp, fun _ => ⟨hp, (h.lo hne).2⟩, k1.sr.same hz fun h0 k hk => hout k (fun e => ?_), fun h0 => ⟨(k1.so h0).1.same hz fun k hk => hout k (fun e => ?_), (h.so h0).2⟩, fun _ h0 => h.ne hne h0, fun y hy => ?_, fun y hy => ⟨(k1.es y hy).1.same hz fun h0 k hk => hout k (fun e => ?_), fun h0 k hk => ⟨((h.es y hy).2 h0 k hk).1, fun _ => ((h.es y hy).2 h0 k hk).2.1 hne, ((h.es y hy).2 h0 k hk).2.2⟩⟩⟩, ?_⟩
  · exact h.ne hne (List.length_pos_iff.1 h0) (by rw [hgo, hk, e])
  · exact h.ne hne h0 (by rw [hgo, hk, e])
  · rcases List.mem_or_eq_of_mem_set hy with hy | rfl
    · exact ⟨(k1.el y hy).1.same hz fun h0 k hk => hout k (fun e => ((h.el y hy).2 h0 k hk).2.1 (by rw [hgo, e])), (h.el y hy).2⟩
    · have hin := h.el Ls[i] (List.getElem_mem hi)
      have hk0 : 0 < y.wait.length → ∀ k, y.v.ownBlock = some k → (G k ∨ B ≤ k) ∧ vl.ownBlock ≠ some k ∧ (Ss ≠ [] → vs.ownBlock ≠ some k) := fun h0 k hk => by
        rcases hf h0 k hk with ⟨h1, h2⟩ | h1
        · exact hin.2 h2 k h1
        · refine ⟨.inr (by omega), fun e => ?_, fun h2 e => ?_⟩
          · rw [hgo] at e
            have := Option.some.inj e
            omega
          · have := (h.so h2).1.lt k e
            omega
      exact ⟨hx.same hz fun h0 k hk => hout k (fun e => (hk0 h0 k hk).2.1 (by rw [hgo, e])), hk0⟩
  · exact ((h.es y hy).2 h0 k hk).2.1 hne (by rw [hgo, e])
  · exact ((((Only.of_below hb).set ⟨g, o + i * 3, none⟩ _ hgo).set ⟨g, o + i * 3 + 1, none⟩ _ hgo).set ⟨g, o + i * 3 + 2, none⟩ _ hgo)
/-- a seat's Got is written -/
theorem WkAt.inc (h : WkAt w B G vl vs Ls Ss) (i : Nat) (hi : i < Ss.length) (n' : Int) {g o n c : Nat} (hv : vs = .slice (some ⟨g, o, none⟩) n c) :
    WkAt (w.setCell ⟨g, o + i * 3 + 1, none⟩ (.int .i64 n')) B G vl vs Ls (Ss.set i { Ss[i] with got := n' }) ∧ Only (fun k => vs.ownBlock = some k) w (w.setCell ⟨g, o + i * 3 + 1, none⟩ (.int .i64 n')) := by
  have hne : Ss ≠ [] := List.ne_nil_of_length_pos (by omega)
  have hgo : vs.ownBlock = some g := by rw [hv]; rfl
  have hz : w.heap.size ≤ (w.setCell ⟨g, o + i * 3 + 1, none⟩ (.int .i64 n')).heap.size := by simp [World.setCell]
  have hout : ∀ k, k ≠ g → (w.setCell ⟨g, o + i * 3 + 1, none⟩ (.int .i64 n')).heap[k]? = w.heap[k]? := fun k hk => Below.heap_setCell _ _ _ _ hk
  have hown := (h.so hne).1
  rw [hv] at hown
  obtain ⟨g', o', c', e, _, _, hsp⟩ := OwnO.spot csSt_len hown i hi
  cases e
  have hp : OwnO (w.setCell ⟨g, o + i * 3 + 1, none⟩ (.int .i64 n')) 3 csSt (.slice (some ⟨g, o, none⟩) Ss.length c) (Ss.set i { Ss[i] with got := n' }) := by
    refine OwnO.put csSt_len hown i hi _ hz (fun j hj => ?_) (fun m _ hm => ?_) (fun a => World.frozen?_setCell _ _ _ _)
    · match j, hj with
      | 0, _ =>
        rw [World.cell?_setCell_other _ _ _ _ (by intro e; simp at e)]
        exact (hsp 0 _ rfl).1
      | 1, _ => exact World.cell?_setCell_same _ _ _ (by rw [(hsp 1 _ rfl).1])
      | 2, _ =>
        rw [World.cell?_setCell_other _ _ _ _ (by intro e; simp at e)]
        exact (hsp 2 _ rfl).1
    · exact World.cell?_setCell_other _ _ _ _ (by intro e; injection e; omega)
  rw [← hv] at hp
  refine ⟨⟨h.lr.same hz fun h0 k hk => hout k (fun e => h.ne (List.length_pos_iff.1 h0) hne (by rw [hgo, hk, e])), fun h0 => ⟨(h.lo h0).1.same hz fun k hk => hout k (fun e => h.ne h0 hne (by rw [hgo, hk, e])), (h.lo h0).2⟩, OwnO.rows csSt_len hp, fun _ => ⟨hp, (h.so hne).2⟩, fun h0 _ => h.ne h0 hne,
    fun y hy => ⟨(h.el y hy).1.same hz fun h0 k hk => hout k (fun e => ((h.el y hy).2 h0 k hk).2.2 hne (by rw [hgo, e])), fun h0 k hk => ⟨((h.el y hy).2 h0 k hk).1, ((h.el y hy).2 h0 k hk).2.1, fun _ => ((h.el y hy).2 h0 k hk).2.2 hne⟩⟩, fun y hy => ?_⟩, (Only.refl _ _).set ⟨g, o + i * 3 + 1, none⟩ _ hgo⟩
  rcases List.mem_or_eq_of_mem_set hy with hy | rfl
  · exact ⟨(h.es y hy).1.same hz fun h0 k hk => hout k (fun e => ((h.es y hy).2 h0 k hk).2.2 (by rw [hgo, e])), (h.es y hy).2⟩
  · have hy := List.getElem_mem hi
    exact ⟨(h.es _ hy).1.same hz fun h0 k hk => hout k (fun e => ((h.es _ hy).2 h0 k hk).2.2 (by rw [hgo, e])), (h.es _ hy).2⟩
end

/-- a lock that a call hands back, its list with it; e: what stands beside it -/
def lkLk (id h : Int) (m : Nat) (L : List Int) (e : Value) (va : Value) (n B : Nat) : Lk :=
  ⟨Option Addr × Nat, ⟨(none, 0)⟩, fun x => .tuple #[lkv id h (.slice x.1 m x.2), e], fun x w => IntsAt w (.slice x.1 m x.2) L ∧ FromV va (.slice x.1 m x.2) n m B⟩
theorem lkLk_at {P : Program} {o : Oper} {a : Act} {W : World} {Gq : World → Prop} {id h : Int} {m : Nat} {L : List Int} {e va : Value} {n B : Nat} {f : FuncId} {args : Array Value} (hm : L.length = m) (hB : B ≤ W.heap.size) (he : ∀ k : In W, (execOp a.eval o).run P k.w = .ok (.enter f args) k.w)
    (hc : ∀ k : In W, Calls P f args k.w fun x w' => ∃ v, x = .returned (.tuple #[lkv id h v, e]) ∧ IntsAt w' v L ∧ FromV va v n L.length k.w.heap.size ∧ Below k.w.heap.size k.w w') : (lkLk id h m L e va n B).at P o a W Gq :=
  ⟨fun _ _ _ h hb => ⟨IntsAt.below h.1 hb, h.2⟩, fun k _ => by
    subst hm
    rw [he k]
    refine ⟨rfl, (hc k).mono ?_⟩
    rintro x w' ⟨v, rfl, h1, h2, h3⟩
    obtain ⟨b, c, rfl⟩ := h1.form
    exact ⟨(b, c), rfl, ⟨h1, fun h0 j hj => (h2 h0 j hj).imp (fun h => h) fun h => Nat.le_trans hB (Nat.le_trans k.h.size h)⟩, h3.mono k.h.size⟩⟩

end Go.Proofs.Ytjmgokjljmmmgaa
/- Stage 20: the document's table in memory; a copy of it; Leave. -/
namespace Go.Proofs.Ytjmgokjljmmmgaa
open Go.RowKit

/-- a table of the document's, in blocks of G -/
structure DocA (G : Nat → Prop) (w : World) (vl vs : Value) (T : Tb) (Ls : List Lr) (Ss : List Sr) : Prop where
  locks : LocksAt w vl Ls
  seats : SeatsAt w vs Ss
  le : Ls.map lkp = T.lks
  se : Ss.map stp = T.sts
  fl : 0 < Ls.length → ∀ k, vl.ownBlock = some k → G k
  fs : 0 < Ss.length → ∀ k, vs.ownBlock = some k → G k
  el : ∀ x ∈ Ls, 0 < x.wait.length → ∀ k, x.v.ownBlock = some k → G k
  es : ∀ x ∈ Ss, 0 < x.want.length → ∀ k, x.v.ownBlock = some k → G k
  lt : ∀ k, G k → k < w.heap.size
def DocAt (G : Nat → Prop) (w : World) (vl vs : Value) (T : Tb) : Prop := ∃ Ls Ss, DocA G w vl vs T Ls Ss
section
variable {G : Nat → Prop} {w w' : World} {vl vs : Value} {T : Tb} {Ls : List Lr} {Ss : List Sr}
theorem lks_ids (h : Ls.map lkp = T.lks) : idsL Ls = T.ids := by
  have := congrArg (List.map Prod.fst) h
  unfold Tb.lks at this
  rw [List.map_map, List.map_map] at this
  simpa [idsL, Function.comp_def, lkp] using this
theorem sts_toks (h : Ss.map stp = T.sts) : toksS Ss = T.toks := by
  have := congrArg (List.map Prod.fst) h
  unfold Tb.sts at this
  rw [List.map_map, List.map_map] at this
  simpa [toksS, Function.comp_def, stp] using this
theorem lks_len (h : Ls.map lkp = T.lks) : Ls.length = T.ids.length := by rw [← lks_ids h]; simp [idsL]
theorem sts_len (h : Ss.map stp = T.sts) : Ss.length = T.toks.length := by rw [← sts_toks h]; simp [toksS]
theorem lks_at (h : Ls.map lkp = T.lks) (i : Nat) (hi : i < Ls.length) (hi2 : i < T.ids.length) : lkp Ls[i] = (T.ids[i], T.hd T.ids[i], T.wt T.ids[i]) := by
  have : (Ls.map lkp)[i]? = T.lks[i]? := by rw [h]
  unfold Tb.lks at this
  rw [List.getElem?_map, List.getElem?_map, List.getElem?_eq_getElem hi, List.getElem?_eq_getElem hi2] at this
  exact Option.some.inj this
theorem sts_at (h : Ss.map stp = T.sts) (i : Nat) (hi : i < Ss.length) (hi2 : i < T.toks.length) : stp Ss[i] = (T.toks[i], (T.got T.toks[i] : Int), T.want T.toks[i]) := by
  have : (Ss.map stp)[i]? = T.sts[i]? := by rw [h]
  unfold Tb.sts at this
  rw [List.getElem?_map, List.getElem?_map, List.getElem?_eq_getElem hi, List.getElem?_eq_getElem hi2] at this
  exact Option.some.inj this
theorem map_upF {β : Type} {ids : List Int} (hn : ids.Nodup) (f g : Int → β) (i : Nat) (hi : i < ids.length) (hg : ∀ x, x ≠ ids[i] → g x = f x) : (ids.map f).set i (g ids[i]) = ids.map g := by
  refine List.ext_getElem (by simp) fun j h1 h2 => ?_
  simp only [List.length_set, List.length_map] at h1
  rw [List.getElem_set]
  by_cases e : i = j
  · subst e; simp
  · rw [if_neg e, List.getElem_map, List.getElem_map]
    refine (hg _ fun e2 => ?_).symm
    rcases Nat.lt_or_gt_of_ne e with h | h
    · exact List.pairwise_iff_getElem.1 hn i j hi (by omega) h e2.symm
    · exact List.pairwise_iff_getElem.1 hn j i (by omega) hi h e2
/-- one lock is another one -/
theorem lks_set (h : Ls.map lkp = T.lks) (hn : T.ids.Nodup) (i : Nat) (hi : i < T.ids.length) (x : Lr) (T' : Tb) (hT : T'.ids = T.ids) (hx : lkp x = (T.ids[i], T'.hd T.ids[i], T'.wt T.ids[i])) (ho : ∀ a, a ≠ T.ids[i] → T'.hd a = T.hd a ∧ T'.wt a = T.wt a) : (Ls.set i x).map lkp = T'.lks := by
  rw [List.map_set, h, hx]
  unfold Tb.lks
  rw [hT]
  exact map_upF hn (fun id => (id, T.hd id, T.wt id)) (fun id => (id, T'.hd id, T'.wt id)) i hi fun a ha => by simp only [(ho a ha).1, (ho a ha).2]
theorem sts_set (h : Ss.map stp = T.sts) (hn : T.toks.Nodup) (i : Nat) (hi : i < T.toks.length) (x : Sr) (T' : Tb) (hT : T'.toks = T.toks) (hx : stp x = (T.toks[i], (T'.got T.toks[i] : Int), T'.want T.toks[i])) (ho : ∀ a, a ≠ T.toks[i] → T'.got a = T.got a ∧ T'.want a = T.want a) : (Ss.set i x).map stp = T'.sts := by
  rw [List.map_set, h, hx]
  unfold Tb.sts
  rw [hT]
  exact map_upF hn (fun t => (t, (T.got t : Int), T.want t)) (fun t => (t, (T'.got t : Int), T'.want t)) i hi fun a ha => by simp only [(ho a ha).1, (ho a ha).2]
theorem WkAt.doc {B : Nat} (h : WkAt w B G vl vs Ls Ss) (hG : ∀ k, G k → k < w.heap.size) (le : Ls.map lkp = T.lks) (se : Ss.map stp = T.sts) : DocAt (fun k => G k ∨ (B ≤ k ∧ k < w.heap.size)) w vl vs T :=
  ⟨Ls, Ss, h.locks, h.seats, le, se, fun h0 k hk => .inr ⟨(h.lo (List.length_pos_iff.1 h0)).2 k hk, h.lr.lt h0 k hk⟩, fun h0 k hk => .inr ⟨(h.so (List.length_pos_iff.1 h0)).2 k hk, h.sr.lt h0 k hk⟩,
    fun x hx h0 k hk => ((h.el x hx).2 h0 k hk).1.imp (fun h => h) fun h2 => ⟨h2, (h.el x hx).1.lt h0 k hk⟩, fun x hx h0 k hk => ((h.es x hx).2 h0 k hk).1.imp (fun h => h) fun h2 => ⟨h2, (h.es x hx).1.lt h0 k hk⟩, fun k hk => hk.elim (hG k) fun h => h.2⟩
theorem DocA.same (h : DocA G w vl vs T Ls Ss) (hz : w.heap.size ≤ w'.heap.size) (he : ∀ k, G k → w'.heap[k]? = w.heap[k]?) : DocA G w' vl vs T Ls Ss :=
  ⟨⟨h.locks.rows.same hz fun h0 g hg => he g (h.fl h0 g hg), fun x hx => (h.locks.each x hx).same hz fun h0 k hk => he k (h.el x hx h0 k hk)⟩, ⟨h.seats.rows.same hz fun h0 g hg => he g (h.fs h0 g hg), fun x hx => (h.seats.each x hx).same hz fun h0 k hk => he k (h.es x hx h0 k hk)⟩, h.le, h.se, h.fl, h.fs, h.el, h.es, fun k hk => Nat.lt_of_lt_of_le (h.lt k hk) hz⟩
theorem DocA.kept (h : DocA G w vl vs T Ls Ss) (hb : Below w.heap.size w w') : DocA G w' vl vs T Ls Ss := h.same hb.size fun k hk => hb.block k (h.lt k hk)
theorem DocAt.same (h : DocAt G w vl vs T) (hz : w.heap.size ≤ w'.heap.size) (he : ∀ k, G k → w'.heap[k]? = w.heap[k]?) : DocAt G w' vl vs T := by
  obtain ⟨Ls, Ss, h⟩ := h
  exact ⟨Ls, Ss, h.same hz he⟩
theorem DocAt.kept (h : DocAt G w vl vs T) (hb : Below w.heap.size w w') : DocAt G w' vl vs T := by
  obtain ⟨Ls, Ss, h⟩ := h
  exact ⟨Ls, Ss, h.kept hb⟩
theorem DocAt.form (h : DocAt G w vl vs T) : ∃ al cl as' cs', vl = .slice al T.ids.length cl ∧ vs = .slice as' T.toks.length cs' := by
  obtain ⟨Ls, Ss, h⟩ := h
  obtain ⟨a, c, e1⟩ := RowsAt.form h.locks.rows
  obtain ⟨b, d, e2⟩ := RowsAt.form h.seats.rows
  rw [lks_len h.le] at e1
  rw [sts_len h.se] at e2
  exact ⟨a, c, b, d, e1, e2⟩
end

/-! ### One thing behind others of one's own -/
theorem rows_one {α : Type} {cs : α → List Value} {K : Nat} (w : World) (x : α) (e : TypeId) : RowsAt (w.alloc (.cells (cs x).toArray e)) K cs (.slice (some ⟨w.heap.size, 0, none⟩) 1 1) [x] :=
  ⟨some ⟨w.heap.size, 0, none⟩, 1, rfl, Nat.le_refl _, fun _ => ⟨w.heap.size, 0, rfl, by simp, fun j y hj i u hu => by
    have hj0 : j = 0 := by
      have := (List.getElem?_eq_some_iff.1 hj).1
      simp at this
      exact this
    subst hj0
    simp at hj
    subst hj
    have := (Blk.new w (cs x) e).cell i hu
    simpa using this⟩⟩
theorem appK {α : Type} {cs : α → List Value} {K : Nat} (hlen : ∀ x, (cs x).length = K) (hK0 : 0 < K) (hone : ∀ x, ∀ u ∈ cs x, u.oneCell' = true) (e ts : TypeId) (i : TypeInfo) (z : Value) (bytes : Nat) (ht : Try.prog.underlying ts = some (.slice e)) (hi : Try.prog.info? e = some i) (hz : i.zero = some z) (hsize : i.size = K) (hby : i.bytes = bytes) (hzs : z.cells.size = K) (hb : bytes ≤ 1000)
    {ops : Array Oper} {rest : List Oper} {o : Oper} {a : Act} {Q : Exit → Act → World → Prop} {B : Nat} {w : World} {x : α} {v : Value} {l : List α} (hown : OwnR w B e K cs v l) (hB : B ≤ w.heap.size) (hl : l.length ≤ 1000000)
    (hgd : o.guard = none) (s y : Operand) (ho : o.op = .call { callee := .builtin .append, args := #[s, y], argTypes := #[ts, ts] }) (hs : a.eval s = v) (hx : a.eval y = .slice (some ⟨w.heap.size, 0, none⟩) 1 1)
    (hK : ∀ v' w', OwnR w' B e K cs v' (l ++ [x]) → Below B w w' → Only (fun k => v.ownBlock = some k) w w' → (∀ k, v'.ownBlock = some k → v.ownBlock = some k ∨ w.heap.size ≤ k) → wpList Try.prog ops Q rest (a.put o.dst v') w') : wpList Try.prog ops Q (o :: rest) a (w.alloc (.cells (cs x).toArray e)) := by
  have ha := (Below.refl B w).alloc hB (.cells (cs x).toArray e)
  have h1 := OwnR.alloc hown (.cells (cs x).toArray e)
  have h2 : B ≤ (w.alloc (.cells (cs x).toArray e)).heap.size := Nat.le_trans hB ha.size
  refine wpList_append_lies _ hgd s y ts ho B e i z K bytes ht hi hz hsize hby hzs hK0 v l.length (flats cs l) hs h1 ⟨w.heap.size, 0, none⟩ 1 1 (cs x) hx (by rw [hlen]; omega) (World.news_of_block (cs := (cs x).toArray) (t := e) (fr := (0, 0)) (heap_alloc_new w _)) (hone x) (by omega) (by unfold maxLen; omega) (by
    have h3 : (l.length + 1) * bytes ≤ 1000001 * 1000 := Nat.mul_le_mul (by omega) hb
    omega) h2 (w.heap.size + 1) (by simp) fun g cap w' k1 k2 k3 _ => ?_
  exact hK _ w' (OwnR.snoc k1 rfl rfl) (OwnR.below h1 ha h2 k2) ((Only.of_below ((Below.refl w.heap.size w).alloc (Nat.le_refl _) _)).trans (Only.grown k2 fun k hk => hk)) fun k hk => by
    simp [Value.ownBlock] at hk
    subst hk
    exact k3.imp (fun h => h) fun h => by omega
def csG (p : Int × Int) : List Value := [.int .i64 p.1, .int .i64 p.2]
theorem csG_len (p : Int × Int) : (csG p).length = 2 := rfl
theorem csG_one (p : Int × Int) : ∀ u ∈ csG p, u.oneCell' = true := by
  intro u hu
  simp [csG] at hu
  rcases hu with rfl | rfl <;> rfl
/-- what is left of the seats -/
def dropS (l : List Sr) (t : Int) : List Sr := l.filter fun x => decide (x.token ≠ t)
theorem dropS_next (l : List Sr) (t : Int) (i : Nat) (h : i < l.length) : dropS (l.take (i + 1)) t = dropS (l.take i) t ++ (if l[i].token ≠ t then [l[i]] else []) := by
  unfold dropS
  rw [List.take_succ_eq_append_getElem h, List.filter_append]
  congr 1
  by_cases e : l[i].token = t <;> simp [e]
theorem dropS_le (l : List Sr) (t : Int) : (dropS l t).length ≤ l.length := List.length_filter_le _ _
theorem dropS_all {l : List Sr} {t : Int} (h : t ∉ toksS l) : dropS l t = l := List.filter_eq_self.2 fun x hx => by
  simp
  rintro rfl
  exact h (List.mem_map.2 ⟨x, hx, rfl⟩)
theorem dropS_lt {l : List Sr} {t : Int} (h : t ∈ toksS l) : (dropS l t).length < l.length := by
  obtain ⟨x, hx, rfl⟩ := List.mem_map.1 h
  have h1 : (dropS l x.token).length ≠ l.length := fun e => by
    have := List.length_filter_eq_length_iff.1 e x hx
    simp at this
  have := dropS_le l x.token
  omega
theorem dropS_map {l : List Sr} {T : Tb} (h : l.map stp = T.sts) (t : Int) (T' : Tb) (h1 : T'.toks = T.toks.filter fun x => decide (x ≠ t)) (h2 : T'.got = T.got) (h3 : T'.want = T.want) : (dropS l t).map stp = T'.sts := by
  unfold Tb.sts
  rw [h1, h2, h3]
  have e : (dropS l t).map stp = (l.map stp).filter fun p => decide (p.1 ≠ t) := by
    unfold dropS
    rw [List.filter_map]
    rfl
  rw [e, h]
  unfold Tb.sts
  rw [List.filter_map]
  rfl
end Go.Proofs.Ytjmgokjljmmmgaa
/- Stage 20: the document's Leave. -/
namespace Go.Proofs.Ytjmgokjljmmmgaa
open Go.RowKit

/-- a box that holds a table, and one for the answer behind it -/
structure Two20 (W : World) (vl vs : Value) (w : World) : Prop where
  box : Blk w W.heap.size [vl, vs]
  ans : Blk w (W.heap.size + 1) [.slice none 0 0, .slice none 0 0]
  below : Below W.heap.size W w
section
variable {W w w' : World} {vl vs v1 v2 : Value}
theorem Two20.kept (T : Two20 W vl vs w) (hb : Below w.heap.size w w') : Two20 W vl vs w' := ⟨T.box.kept hb, T.ans.kept hb, T.below.trans (hb.mono T.below.size)⟩
/-- what lies from B on has changed -/
theorem Two20.only {F : Nat → Prop} (T : Two20 W vl vs w) (ho : Only F w w') (hF : ∀ k, F k → W.heap.size + 2 ≤ k) : Two20 W vl vs w' :=
  ⟨T.box.same (ho.block _ (by have := Blk.lt T.box; omega) fun h => by have := hF _ h; omega), T.ans.same (ho.block _ (by have := Blk.lt T.ans; omega) fun h => by have := hF _ h; omega), T.below.trans (ho.below (fun k hk => by have := hF k hk; omega) T.below.size)⟩
/-- the box is written -/
theorem Two20.turn (T : Two20 W vl vs w) (v1 v2 : Value) : Two20 W v1 v2 ((w.setCell ⟨W.heap.size, 0, none⟩ v1).setCell ⟨W.heap.size, 1, none⟩ v2) :=
  ⟨(T.box.set 0 v1).set 1 v2, (T.ans.away _ _ (by simp)).away _ _ (by simp), (T.below.setCell (p := ⟨W.heap.size, 0, none⟩) (by simp) _).setCell (p := ⟨W.heap.size, 1, none⟩) (by simp) _⟩
theorem Two20.seats (T : Two20 W vl vs w) (v2 : Value) : Two20 W vl v2 (w.setCell ⟨W.heap.size, 1, none⟩ v2) :=
  ⟨T.box.set 1 v2, T.ans.away _ _ (by simp), T.below.setCell (p := ⟨W.heap.size, 1, none⟩) (by simp) _⟩
/-- the answer is written -/
theorem Two20.put (T : Two20 W vl vs w) (v1 v2 : Value) : Blk ((w.setCell ⟨W.heap.size + 1, 0, none⟩ v1).setCell ⟨W.heap.size + 1, 1, none⟩ v2) (W.heap.size + 1) [v1, v2] ∧ Below W.heap.size W ((w.setCell ⟨W.heap.size + 1, 0, none⟩ v1).setCell ⟨W.heap.size + 1, 1, none⟩ v2) :=
  ⟨(T.ans.set 0 v1).set 1 v2, (T.below.setCell (p := ⟨W.heap.size + 1, 0, none⟩) (by simp) _).setCell (p := ⟨W.heap.size + 1, 1, none⟩) (by simp) _⟩
end
theorem size_setCell (w : World) (p : Addr) (u : Value) : (w.setCell p u).heap.size = w.heap.size := by simp [World.setCell]

/-- the first j locks have been left -/
def Tb.lvg (T : Tb) (t : Int) (j : Nat) : Tb := { T with toks := T.toks.filter (fun x => decide (x ≠ t)), hd := fun id => if id ∈ T.ids.take j then (leaveL (T.hd id) (T.wt id) t).1 else T.hd id, wt := fun id => if id ∈ T.ids.take j then (leaveL (T.hd id) (T.wt id) t).2.1 else T.wt id }
theorem not_take {l : List Int} (hn : l.Nodup) (j : Nat) (hj : j < l.length) : l[j] ∉ l.take j := fun h => by
  obtain ⟨i, hi, e⟩ := List.getElem_of_mem h
  rw [List.length_take] at hi
  rw [List.getElem_take] at e
  exact List.pairwise_iff_getElem.1 hn i j (by omega) hj (by omega) e
theorem lvg_at (T : Tb) (hn : T.ids.Nodup) (t : Int) (j : Nat) (hj : j < T.ids.length) : (T.lvg t j).hd T.ids[j] = T.hd T.ids[j] ∧ (T.lvg t j).wt T.ids[j] = T.wt T.ids[j] := ⟨if_neg (not_take hn j hj), if_neg (not_take hn j hj)⟩
theorem lvg_next (T : Tb) (t : Int) (j : Nat) (hj : j < T.ids.length) : (T.lvg t (j + 1)).hd T.ids[j] = (leaveL (T.hd T.ids[j]) (T.wt T.ids[j]) t).1 ∧ (T.lvg t (j + 1)).wt T.ids[j] = (leaveL (T.hd T.ids[j]) (T.wt T.ids[j]) t).2.1 := by
  have h : T.ids[j] ∈ T.ids.take (j + 1) := by rw [List.take_succ_eq_append_getElem hj]; exact List.mem_append_right _ (List.mem_singleton.2 rfl)
  exact ⟨if_pos h, if_pos h⟩
theorem lvg_other (T : Tb) (t : Int) (j : Nat) (hj : j < T.ids.length) (a : Int) (ha : a ≠ T.ids[j]) : (T.lvg t (j + 1)).hd a = (T.lvg t j).hd a ∧ (T.lvg t (j + 1)).wt a = (T.lvg t j).wt a := by
  have h : a ∈ T.ids.take (j + 1) ↔ a ∈ T.ids.take j := by rw [List.take_succ_eq_append_getElem hj, List.mem_append, List.mem_singleton]; exact ⟨fun h => h.resolve_right ha, .inl⟩
  simp only [Tb.lvg, h, and_self]
theorem lvg_zero (T : Tb) (t : Int) : (T.lvg t 0).lks = T.lks := by simp [Tb.lks, Tb.lvg]
theorem lvg_end {T : Tb} {t : Int} (ht : t ∈ T.toks) : (T.lvg t T.ids.length).lks = (T.leave t).lks := by
  unfold Tb.leave
  rw [if_pos ht]
  unfold Tb.lks
  refine List.map_congr_left fun a ha => ?_
  have h : a ∈ T.ids.take T.ids.length := by rw [List.take_length]; exact ha
  simp only [Tb.lvg, if_pos h]

end Go.Proofs.Ytjmgokjljmmmgaa
/- The law FifoFair, over the program's contracts as one structure. -/
namespace Go.Proofs.Ytjmgokjljmmmgaa
open Go.RowKit

theorem plc_cons (z : Int) (t : List Int) (x : Int) : plcL (z :: t) x = if z = x then 0 else if x ∈ t then plcL t x + 1 else -1 := by
  unfold plcL
  by_cases h : z = x
  · rw [if_pos h, if_pos (by rw [h]; exact List.mem_cons_self), h, List.idxOf_cons_self]
    rfl
  · rw [if_neg h]
    by_cases h2 : x ∈ t
    · rw [if_pos h2, if_pos (List.mem_cons_of_mem _ h2), if_pos h2, List.idxOf_cons, show (z == x) = false from beq_noI h]
      simp
    · rw [if_neg h2, if_neg (fun h3 => by rcases List.mem_cons.1 h3 with e | e; exact h e.symm; exact h2 e)]
/-- nobody falls back; who comes is the last one -/
def FairI (L L' : List Int) (x : Int) : Prop := (0 ≤ plcL L x → plcL L' x ≤ plcL L x) ∧ (plcL L x < 0 → 0 ≤ plcL L' x → plcL L' x = (L'.length : Int) - 1)
theorem fair_same (L : List Int) (x : Int) : FairI L L x := ⟨fun _ => Int.le_refl _, fun h1 h2 => by omega⟩
theorem plc_append {L : List Int} {x : Int} (h : x ∈ L) (y : Int) : plcL (L ++ [y]) x = plcL L x := by
  unfold plcL
  rw [if_pos h, if_pos (List.mem_append_left _ h), List.idxOf_append, if_pos h]
theorem plc_last {L : List Int} {x : Int} (h : x ∉ L) : plcL (L ++ [x]) x = (L.length : Int) := by
  unfold plcL
  rw [if_pos (by simp), List.idxOf_append, if_neg h, List.idxOf_cons_self]
  simp
theorem fair_put (L : List Int) (room y x : Int) : FairI L (putF L room y).1 x := by
  unfold putF
  split
  · exact fair_same L x
  · split
    · exact fair_same L x
    · by_cases h : x ∈ L
      · refine ⟨fun _ => by rw [plc_append h]; exact Int.le_refl _, fun h1 => ?_⟩
        have := plc_ge.2 h
        omega
      · refine ⟨fun h1 => absurd (plc_ge.1 h1) h, fun _ h2 => ?_⟩
        have hm := plc_ge.1 h2
        have hx : x = y := by
          rcases List.mem_append.1 hm with h3 | h3
          · exact absurd h3 h
          · exact List.mem_singleton.1 h3
        subst hx
        show plcL (L ++ [x]) x = ((L ++ [x]).length : Int) - 1
        rw [plc_last h, List.length_append]
        simp
theorem put_nodup {L : List Int} (h : L.Nodup) (room y : Int) : (putF L room y).1.Nodup := by
  unfold putF
  split
  · exact h
  · rename_i hn
    split
    · exact h
    · exact List.nodup_append.2 ⟨h, by simp, fun a ha b hb e => hn (by rw [List.mem_singleton.1 hb] at e; exact e ▸ ha)⟩
theorem fair_take {L : List Int} (h : L.Nodup) (x : Int) : FairI L (L.drop 1) x := by
  cases L with
  | nil => exact fair_same [] x
  | cons z t =>
    have hz := List.nodup_cons.1 h
    show FairI (z :: t) t x
    unfold FairI
    rw [plc_cons]
    by_cases e : z = x
    · subst e
      rw [if_pos rfl, plc_none hz.1]
      exact ⟨fun _ => by omega, fun h => by omega⟩
    · rw [if_neg e]
      by_cases h2 : x ∈ t
      · rw [if_pos h2]
        have := plc_ge.2 h2
        exact ⟨fun _ => by omega, fun h => by omega⟩
      · rw [if_neg h2, plc_none h2]
        exact ⟨fun h => by omega, fun _ h => by omega⟩
theorem take_head (z : Int) (t : List Int) (x : Int) : (z == x) = (plcL (z :: t) x == 0) := by
  rw [plc_cons]
  by_cases e : z = x
  · rw [if_pos e, e]; simp
  · rw [if_neg e]
    rw [beq_noI e]
    refine (beq_noI ?_).symm
    by_cases h2 : x ∈ t
    · rw [if_pos h2]
      have := plc_ge.2 h2
      omega
    · rw [if_neg h2]
      omega
theorem fair_drop (x y : Int) : ∀ L : List Int, FairI L (dropF L y) x := fun L => by
  by_cases h : x ∈ L
  · refine ⟨fun _ => ?_, fun h1 => by have := plc_ge.2 h; omega⟩
    induction L with
    | nil => cases h
    | cons z t ih =>
      have e1 : dropF (z :: t) y = if z = y then dropF t y else z :: dropF t y := by
        unfold dropF
        by_cases e : z = y <;> simp [e]
      rw [e1, plc_cons z t x]
      by_cases ez : z = y
      · rw [if_pos ez]
        by_cases ex : z = x
        · rw [if_pos ex]
          have : x ∉ dropF t y := fun hm => ((dropF_mem _ _ _).1 hm).2 (by rw [← ex, ez])
          rw [plc_none this]
          omega
        · have hxt : x ∈ t := by
            rcases List.mem_cons.1 h with e | e
            · exact absurd e.symm ex
            · exact e
          rw [if_neg ex, if_pos hxt]
          have := ih hxt (plc_ge.2 hxt)
          omega
      · rw [if_neg ez, plc_cons]
        by_cases ex : z = x
        · rw [if_pos ex, if_pos ex]
          exact Int.le_refl _
        · have hxt : x ∈ t := by
            rcases List.mem_cons.1 h with e | e
            · exact absurd e.symm ex
            · exact e
          rw [if_neg ex, if_neg ex, if_pos hxt]
          have := ih hxt (plc_ge.2 hxt)
          have h3 := plc_ge.2 hxt
          split <;> omega
  · have hn : x ∉ dropF L y := fun hm => h ((dropF_mem _ _ _).1 hm).1
    rw [FairI, plc_none h, plc_none hn]
    exact ⟨fun h => by omega, fun _ h => by omega⟩

/-- an act: its kind, its number -/
structure A18 where
  k : Int
  x : Int
deriving Inhabited
def csA18 (a : A18) : List Value := [.int .i64 a.k, .int .i64 a.x]
theorem csA18_len (a : A18) : (csA18 a).length = 2 := rfl

end Go.Proofs.Ytjmgokjljmmmgaa
/- A scope with one label to which the run jumps back: what holds at the label bears a number that every pass lowers. -/
namespace Go.Proofs.Ytjmgokjljmmmgaa
open Go.RowKit

theorem wp_of_skip {P : Program} {B rest : Code} (h : rest = .seq .skip B) (Q : Exit → Act → World → Prop) (a : Act) (w : World) (hB : B.wp P Q a w) : rest.wp P Q a w := by
  subst h
  exact wp_seq (wp_skip hB)

/-- The label's rest is walked once ('pass'); the way to the label once ('first'). -/
theorem wp_scope_goto {P : Program} {a : Act} {w : World} {Q : Exit → Act → World → Prop} {c rest B : Code} (l : Nat) (I : Nat → Act → World → Prop) (hf : findLabel c l = some rest) (hB : rest = .seq .skip B)
    (pass : ∀ n a w, I n a w → ∀ K : Act → World → Prop, (∀ n' a' w', n' < n → I n' a' w' → K a' w') → B.wp P (Exit.jump l K Q) a w)
    (first : ∀ K : Act → World → Prop, (∀ n a w, I n a w → B.wp P (Exit.jump l K Q) a w) → c.wp P (Exit.jump l K Q) a w) : (Code.scope c).wp P Q a w := by
  refine wp_scope_jumps l (fun a w => ∃ n, I n a w) (fun a w => leastOf (fun n => I n a w)) hf ?_ ?_
  · exact first _ fun n a w h => pass n a w h _ fun n' a' w' _ h' => ⟨n', h'⟩
  · intro a w hI
    have hs := leastOf_spec hI
    refine wp_of_skip hB _ _ _ (pass _ a w hs.1 _ ?_)
    intro n' a' w' hlt h'
    exact ⟨⟨n', h'⟩, Nat.lt_of_le_of_lt ((leastOf_spec ⟨n', h'⟩).2 n' h') hlt⟩

end Go.Proofs.Ytjmgokjljmmmgaa
/- Sums and products that stop at a greatest number: plain mathematics. -/
namespace Go.Proofs.Ytjmgokjljmmmgaa

def isum : List Int → Int
  | [] => 0
  | a :: l => max a 0 + isum l
def iprod : List Int → Int
  | [] => 1
  | a :: l => max a 0 * iprod l
def sadd (m : Int) (l : List Int) : Int := min m (isum l)
def smul (m : Int) (l : List Int) : Int := min m (iprod l)
def addTo (m s n : Int) : Int := if m - s < n then m else s + n
def mulTo (m p n : Int) : Int := if 0 < n ∧ m / n < p then m else p * n
def iover (a b : Int) : Int := if 0 < max a 0 % max b 1 then max a 0 / max b 1 + 1 else max a 0 / max b 1
def iless (a b : Int) : Int := max (max a 0 - max b 0) 0
def iclip (n a b : Int) : Int := if n < a then a else min n b

theorem isum_nonneg (l : List Int) : 0 ≤ isum l := by
  induction l with
  | nil => simp [isum]
  | cons a l ih => simp only [isum]; omega
theorem iprod_nonneg (l : List Int) : 0 ≤ iprod l := by
  induction l with
  | nil => simp [iprod]
  | cons a l ih => simp only [iprod]; exact Int.mul_nonneg (by omega) ih
theorem isum_snoc (l : List Int) (a : Int) : isum (l ++ [a]) = isum l + max a 0 := by
  induction l with
  | nil => simp [isum]
  | cons b l ih => simp only [List.cons_append, isum, ih]; omega
theorem iprod_snoc (l : List Int) (a : Int) : iprod (l ++ [a]) = iprod l * max a 0 := by
  induction l with
  | nil => simp [iprod]
  | cons b l ih => simp only [List.cons_append, iprod, ih, Int.mul_assoc]

theorem min_mul_min {m p z : Int} (hm : 0 ≤ m) (hp : 0 ≤ p) (hz : 0 ≤ z) : min m (min m p * z) = min m (p * z) := by
  by_cases h : p ≤ m
  · rw [show min m p = p by omega]
  · rw [show min m p = m by omega]
    by_cases h0 : z = 0
    · subst h0; simp
    · have h1 : m * 1 ≤ m * z := Int.mul_le_mul_of_nonneg_left (by omega) hm
      have h2 : p * 1 ≤ p * z := Int.mul_le_mul_of_nonneg_left (by omega) hp
      omega

theorem sadd_nil {m : Int} (hm : 0 ≤ m) : sadd m [] = 0 := by simp only [sadd, isum]; omega
theorem smul_nil (m : Int) : smul m [] = min 1 m := by simp only [smul, iprod]; omega
theorem sadd_bd {m : Int} (hm : 0 ≤ m) (l : List Int) : 0 ≤ sadd m l ∧ sadd m l ≤ m := by
  have := isum_nonneg l
  unfold sadd; omega
theorem smul_bd {m : Int} (hm : 0 ≤ m) (l : List Int) : 0 ≤ smul m l ∧ smul m l ≤ m := by
  have := iprod_nonneg l
  unfold smul; omega
theorem sadd_snoc {m : Int} (_hm : 0 ≤ m) (l : List Int) (a : Int) : sadd m (l ++ [a]) = addTo m (sadd m l) (max a 0) := by
  have h := isum_nonneg l
  unfold sadd addTo
  rw [isum_snoc]
  split <;> omega
theorem mulTo_min {m p n : Int} (hm : 0 ≤ m) (_hp : 0 ≤ p) (_hpm : p ≤ m) (hn : 0 ≤ n) : mulTo m p n = min m (p * n) := by
  unfold mulTo
  by_cases h0 : n = 0
  · subst h0; simp; omega
  · have hn' : 0 < n := by omega
    by_cases h : m / n < p
    · rw [if_pos ⟨hn', h⟩]
      have := (Int.ediv_lt_iff_lt_mul hn').1 h
      omega
    · rw [if_neg (fun c => h c.2)]
      have := (Int.le_ediv_iff_mul_le hn').1 (by omega : p ≤ m / n)
      omega
theorem smul_snoc {m : Int} (hm : 0 ≤ m) (l : List Int) (a : Int) : smul m (l ++ [a]) = mulTo m (smul m l) (max a 0) := by
  have h := iprod_nonneg l
  have hb := smul_bd hm l
  rw [mulTo_min hm hb.1 hb.2 (by omega)]
  unfold smul
  rw [iprod_snoc, min_mul_min hm h (by omega)]

theorem sadd_turn (m a b c : Int) : sadd m [c, b, a] = sadd m [a, b, c] := by simp only [sadd, isum]; omega
theorem sadd_left {m : Int} (_hm : 0 ≤ m) (a b c : Int) : sadd m [sadd m [a, b], c] = sadd m [a, b, c] := by simp only [sadd, isum]; omega
theorem sadd_right {m : Int} (_hm : 0 ≤ m) (a b c : Int) : sadd m [a, sadd m [b, c]] = sadd m [a, b, c] := by simp only [sadd, isum]; omega

theorem iprod3 (a b c : Int) : iprod [a, b, c] = max a 0 * (max b 0 * max c 0) := by simp [iprod]
theorem iprod2 (a b : Int) : iprod [a, b] = max a 0 * max b 0 := by simp [iprod]
theorem smul_turn (m a b c : Int) : smul m [c, a, b] = smul m [a, b, c] := by
  unfold smul
  rw [iprod3, iprod3, ← Int.mul_assoc, ← Int.mul_assoc, Int.mul_comm (max c 0), Int.mul_assoc, Int.mul_comm (max c 0), ← Int.mul_assoc]
theorem smul_left {m : Int} (hm : 0 ≤ m) (a b c : Int) : smul m [smul m [a, b], c] = smul m [a, b, c] := by
  have hb := smul_bd hm [a, b]
  have hp : 0 ≤ max a 0 * max b 0 := Int.mul_nonneg (by omega) (by omega)
  show min m (iprod [smul m [a, b], c]) = min m (iprod [a, b, c])
  rw [iprod2, iprod3, show max (smul m [a, b]) 0 = smul m [a, b] by omega, ← Int.mul_assoc]
  show min m (min m (iprod [a, b]) * max c 0) = _
  rw [iprod2, min_mul_min hm hp (by omega)]
theorem smul_right {m : Int} (hm : 0 ≤ m) (a b c : Int) : smul m [a, smul m [b, c]] = smul m [a, b, c] := by
  have h1 : ∀ x y, smul m [x, y] = smul m [y, x] := by intro x y; unfold smul; rw [iprod2, iprod2, Int.mul_comm]
  rw [h1 a, smul_left hm, ← smul_turn, ← smul_turn]
theorem smul_sum {m : Int} (hm : 0 ≤ m) (a b c : Int) : smul m [a, sadd m [b, c]] = sadd m [smul m [a, b], smul m [a, c]] := by
  have h1 : smul m [a, sadd m [b, c]] = min m (min m (max b 0 + max c 0) * max a 0) := by
    have e : isum [b, c] = max b 0 + max c 0 := by simp only [isum]; omega
    unfold smul
    rw [iprod2, Int.mul_comm]
    congr 2
    unfold sadd
    rw [e]; omega
  have hp : 0 ≤ max b 0 * max a 0 := Int.mul_nonneg (by omega) (by omega)
  have hq : 0 ≤ max c 0 * max a 0 := Int.mul_nonneg (by omega) (by omega)
  have e1 : smul m [a, b] = min m (max b 0 * max a 0) := by unfold smul; rw [iprod2, Int.mul_comm]
  have e2 : smul m [a, c] = min m (max c 0 * max a 0) := by unfold smul; rw [iprod2, Int.mul_comm]
  rw [h1, min_mul_min hm (by omega) (by omega), Int.add_mul, e1, e2]
  simp only [sadd, isum]
  omega
theorem sadd_grows {m a b c : Int} (_hm : 0 ≤ m) (h : a ≤ b) : sadd m [a, c] ≤ sadd m [b, c] := by simp only [sadd, isum]; omega
theorem smul_grows {m a b c : Int} (_hm : 0 ≤ m) (h : a ≤ b) : smul m [a, c] ≤ smul m [b, c] := by
  unfold smul
  rw [iprod2, iprod2]
  have := Int.mul_le_mul_of_nonneg_right (show max a 0 ≤ max b 0 by omega) (show 0 ≤ max c 0 by omega)
  omega
theorem iless_grows {a b c : Int} (h : a ≤ b) : iless a c ≤ iless b c := by unfold iless; omega

theorem iover_bd (a b : Int) : 0 ≤ iover a b ∧ iover a b ≤ max a 0 := by
  unfold iover
  have hx : 0 ≤ max a 0 := by omega
  have hy : 0 < max b 1 := by omega
  generalize max a 0 = x at hx ⊢
  generalize max b 1 = y at hy ⊢
  have h1 := Int.ediv_nonneg hx (Int.le_of_lt hy)
  have h2 := Int.mul_ediv_add_emod x y
  have h3 := Int.emod_nonneg x (show y ≠ 0 by omega)
  have h4 : (x / y) * 1 ≤ y * (x / y) := by rw [Int.mul_comm y]; exact Int.mul_le_mul_of_nonneg_left (by omega) h1
  split <;> omega
theorem iover_enough {a b : Int} (ha : a ≤ 9223372036854775807) : max a 0 ≤ smul 9223372036854775807 [iover a b, max b 1] := by
  have hb := iover_bd a b
  unfold smul
  rw [iprod2]
  unfold iover at hb ⊢
  have hx : 0 ≤ max a 0 := by omega
  have hy : 0 < max b 1 := by omega
  have ha' : max a 0 ≤ 9223372036854775807 := by omega
  rw [show max (max b 1) 0 = max b 1 by omega]
  generalize max a 0 = x at *
  generalize max b 1 = y at *
  have h2 := Int.mul_ediv_add_emod x y
  have h3 := Int.emod_nonneg x (show y ≠ 0 by omega)
  have h4 := Int.emod_lt_of_pos x hy
  have h5 : y * (x / y) = (x / y) * y := Int.mul_comm _ _
  split at hb
  · rename_i h
    rw [if_pos h, show max (x / y + 1) 0 = x / y + 1 by omega, Int.add_mul]
    omega
  · rename_i h
    rw [if_neg h, show max (x / y) 0 = x / y by omega]
    omega
theorem iover_least {a b : Int} (h : 0 < iover a b) : 0 < a ∧ iover a b - 1 ≤ (max a 0 - 1) / max b 1 := by
  have hb := iover_bd a b
  refine ⟨by omega, ?_⟩
  unfold iover at h hb ⊢
  have hy : 0 < max b 1 := by omega
  generalize max a 0 = x at *
  generalize max b 1 = y at *
  have h2 := Int.mul_ediv_add_emod x y
  have h3 := Int.emod_nonneg x (show y ≠ 0 by omega)
  have h5 : y * (x / y) = (x / y) * y := Int.mul_comm _ _
  rw [Int.le_ediv_iff_mul_le hy]
  split
  · rename_i h
    rw [Int.sub_mul, Int.add_mul]; omega
  · rename_i h
    rw [Int.sub_mul]; omega
theorem iless_back {a b : Int} (ha : a ≤ 9223372036854775807) : sadd 9223372036854775807 [iless a b, min (max a 0) (max b 0)] = max a 0 := by
  simp only [sadd, isum, iless]; omega

end Go.Proofs.Ytjmgokjljmmmgaa
/- The walks of package sat. -/
namespace Go.Proofs.Ytjmgokjljmmmgaa
open Go.RowKit

theorem ret_int {k : IntKind} {a b : Int} (h : a = b) : Ending.returned (.int k a) = .returned (.int k b) := by rw [h]

end Go.Proofs.Ytjmgokjljmmmgaa
/- The walks of package sat: what is exported. -/
namespace Go.Proofs.Ytjmgokjljmmmgaa
open Go.RowKit

def InI64 (l : List Int) : Prop := ∀ x ∈ l, -9223372036854775808 ≤ x ∧ x ≤ 9223372036854775807

end Go.Proofs.Ytjmgokjljmmmgaa
/- The walks of the document's answers for layer 2. -/
namespace Go.Proofs.Ytjmgokjljmmmgaa
open Go.RowKit

theorem sadd_stop {m : Int} (_hm : 0 ≤ m) (l : List Int) (j : Nat) (x : Int) (h : l.take (j + 1) = l.take j ++ [x]) (hx : m - sadd m (l.take j) < max x 0) : sadd m l = m := by
  have e := List.take_append_drop (j + 1) l
  have h1 : ∀ a b : List Int, isum (a ++ b) = isum a + isum b := by
    intro a b
    induction a with
    | nil => simp [isum]
    | cons y a ih => simp only [List.cons_append, isum, ih]; omega
  have h2 : isum l = isum (l.take j) + max x 0 + isum (l.drop (j + 1)) := by
    rw [← isum_snoc, ← h, ← h1, e]
  have h3 := isum_nonneg (l.drop (j + 1))
  have h4 := isum_nonneg (l.take j)
  unfold sadd at hx ⊢
  omega

theorem iprod_append (a b : List Int) : iprod (a ++ b) = iprod a * iprod b := by
  induction a with
  | nil => simp [iprod]
  | cons y a ih => simp only [List.cons_append, iprod, ih, Int.mul_assoc]
theorem iprod_pos (l : List Int) (h : ∀ x ∈ l, 0 < x) : 1 ≤ iprod l := by
  induction l with
  | nil => simp [iprod]
  | cons y l ih =>
    have h1 := ih fun x hx => h x (by simp [hx])
    have h2 := h y (by simp)
    simp only [iprod]
    have := Int.mul_le_mul_of_nonneg_left h1 (show 0 ≤ max y 0 by omega)
    omega
theorem iprod_zero {l : List Int} {x : Int} (hx : x ∈ l) (h : x ≤ 0) : iprod l = 0 := by
  induction l with
  | nil => simp at hx
  | cons y l ih =>
    simp only [iprod]
    rcases List.mem_cons.1 hx with rfl | hx
    · rw [show max x 0 = 0 by omega]; simp
    · rw [ih hx]; simp

theorem smul_stop {m s x : Int} (l : List Int) (j : Nat) (hall : ∀ x ∈ l, 0 < x) (h : l.take (j + 1) = l.take j ++ [x]) (hs : iprod (l.take j) = s) (hs0 : 1 ≤ s) (hx0 : 0 < x) (hx : m / s < x) : smul m l = m := by
  have e := List.take_append_drop (j + 1) l
  have h2 : iprod l = s * x * iprod (l.drop (j + 1)) := by
    rw [← e, iprod_append, h, iprod_snoc, hs, show max x 0 = x by omega]
    simp [← h]
  have h3 := iprod_pos (l.drop (j + 1)) fun x hx => hall x (List.mem_of_mem_drop hx)
  have h4 : m < x * s := (Int.ediv_lt_iff_lt_mul (by omega)).1 hx
  have h5 : s * x = x * s := Int.mul_comm _ _
  have h6 : 0 ≤ s * x := Int.mul_nonneg (by omega) (by omega)
  have h7 := Int.mul_le_mul_of_nonneg_left h3 h6
  unfold smul
  omega

end Go.Proofs.Ytjmgokjljmmmgaa
/- The law FifoDoes, over the program's contracts as one structure. Written by wip/tools/gen_fifodoes.py. -/
namespace Go.Proofs.Ytjmgokjljmmmgaa
open Go.RowKit

theorem clip_is (n : Int) : iclip n 0 1024 = clipF n := by unfold iclip clipF; split <;> omega
/-- the list without its first number, as the model cuts it -/
theorem from18 (a : Option Addr) (n c : Nat) (hk : 1 ≤ n) (hn : n ≤ c) : ∃ a4 c4, (∀ w', (Instr.sliceAt 30 (.slice a n c) (some (.int .i64 1)) none none).run Try.prog w' = .ok (.slice a4 (n - 1) c4) w') ∧
    (∀ (w' : World) (l : List Int), l.length = n → RowsAt w' 1 csI (.slice a n c) l → RowsAt w' 1 csI (.slice a4 (n - 1) c4) (l.drop 1)) ∧ ∀ k, (Value.slice a4 (n - 1) c4).ownBlock = some k → (Value.slice a n c).ownBlock = some k := by
  have h1 : (1 : Int) ≤ (n : Int) := by omega
  by_cases hck : c = 1
  · have hc0 : n = 1 := by omega
    refine ⟨a, 0, fun w' => ?_, fun w' l hl h => ?_, fun k h => by cases a <;> simp [Value.ownBlock] at h ⊢; exact h⟩
    · simp [go_sem, hck, hc0, sliced]
    · have := restAt13 h 1 (by omega) a (fun h => by omega)
      rwa [hck, Nat.sub_self] at this
  · refine ⟨a.map (fun x => x.add 1), c - 1, fun w' => ?_, fun w' l hl h => ?_, fun k h => ?_⟩
    · simp [go_sem, sliced, h1]
      exact fun h => absurd h hck
    · exact restAt13 h 1 (by omega) _ (fun _ g o e => by subst e; simp [Addr.add])
    · cases a with
      | none => simp [Value.ownBlock] at h
      | some a => simpa [Value.ownBlock, Addr.add] using h
def All18 (L : List Int) (k : Nat) : Prop := L.length ≤ k ∧ ∀ y ∈ L, In18 y
theorem All18.put {L : List Int} {k : Nat} (h : All18 L k) (n x : Int) (hx : In18 x) : All18 (putF L n x).1 (k + 1) := by
  refine ⟨Nat.le_trans (putF_len L n x) (by have := h.1; omega), fun y hy => ?_⟩
  unfold putF at hy
  split at hy
  · exact h.2 y hy
  · split at hy
    · exact h.2 y hy
    · rcases List.mem_append.1 hy with hy | hy
      · exact h.2 y hy
      · rw [List.mem_singleton.1 hy]; exact hx
theorem All18.tail {L : List Int} {k : Nat} (h : All18 L k) : All18 (L.drop 1) (k + 1) := ⟨by rw [List.length_drop]; have := h.1; omega, fun y hy => h.2 y (List.mem_of_mem_drop hy)⟩
theorem All18.drop {L : List Int} {k : Nat} (h : All18 L k) (x : Int) : All18 (dropF L x) (k + 1) := ⟨Nat.le_trans (dropF_len L x) (by have := h.1; omega), fun y hy => h.2 y ((dropF_mem _ _ _).1 hy).1⟩
theorem All18.same {L : List Int} {k : Nat} (h : All18 L k) : All18 L (k + 1) := ⟨by have := h.1; omega, h.2⟩

/-- the round's end, behind the act: the function's own statement -/
def rightC18 : Code → Code | .seq _ y => y | c => c
def leftC18 : Code → Code | .seq x _ => x | c => c
def inC18 : Code → Code | .block _ c => c | .loop c => c | c => c
end Go.Proofs.Ytjmgokjljmmmgaa
/- Stage 19: the document's Grant. -/
namespace Go.Proofs.Ytjmgokjljmmmgaa
open Go.RowKit

end Go.Proofs.Ytjmgokjljmmmgaa
/- Stage 20: a table that is worked on, and a list of grants beside it; ask as a whole. -/
namespace Go.Proofs.Ytjmgokjljmmmgaa
open Go.RowKit

section
variable {w w1 w' : World} {B : Nat} {G : Nat → Prop} {vl vs gv : Value} {Ls : List Lr} {Ss : List Sr} {gl : List (Int × Int)}
end


theorem OkX.wantlen {T : Tb} {x : Option Int} (h : OkX T x) {t : Int} (ht : t ∈ T.toks) : (T.want t).length ≤ 32 :=
  Nat.le_trans (len_of_sub (T.want t) T.ids (ris_nodup (h.wr _ ht)) (h.win _ ht)) (may_len h.may)
end Go.Proofs.Ytjmgokjljmmmgaa
/- Stage 20: the document's New, Few; what its Tokens and Seated tell of a table. -/
namespace Go.Proofs.Ytjmgokjljmmmgaa
open Go.RowKit

/-! ### Acts -/
structure Ac where
  kind : Int
  token : Int
  a : Option Addr
  c : Nat
  want : List Int
deriving Inhabited
abbrev Ac.v (x : Ac) : Value := .slice x.a x.want.length x.c
def csAc (x : Ac) : List Value := [.int .i64 x.kind, .int .i64 x.token, x.v]
theorem csAc_len (x : Ac) : (csAc x).length = 3 := rfl
structure ActsAt (w : World) (v : Value) (l : List Ac) : Prop where
  rows : RowsAt w 3 csAc v l
  each : ∀ x ∈ l, IntsAt w x.v x.want
theorem ActsAt.below {w w' : World} {v : Value} {l : List Ac} (h : ActsAt w v l) (hb : Below w.heap.size w w') : ActsAt w' v l := ⟨RowsAt.kept h.rows hb, fun x hx => (h.each x hx).below hb⟩
theorem RowsAt.atA {w : World} {v : Value} {l : List Ac} (h : RowsAt w 3 csAc v l) (k : Nat) (hk : k < l.length) :
    ∃ g o c, v = .slice (some ⟨g, o, none⟩) l.length c ∧ l.length ≤ c ∧ g < w.heap.size ∧ w.cell? ⟨g, o + k * 3, none⟩ = some (.int .i64 l[k].kind) ∧ w.cell? ⟨g, o + k * 3 + 1, none⟩ = some (.int .i64 l[k].token) ∧ w.cell? ⟨g, o + k * 3 + 2, none⟩ = some l[k].v := by
  obtain ⟨g, o, c, e, hc, hg, hx⟩ := h.spot k hk
  exact ⟨g, o, c, e, hc, hg, hx 0 _ rfl, hx 1 _ rfl, hx 2 _ rfl⟩
def fewB (l : List Ac) (most : Int) : Bool := decide ((l.length : Int) ≤ most) && l.all fun x => decide (x.want.length ≤ 40)

def newLs (l : List Int) : List Lr := l.map fun id => ⟨id, 0, none, 0, []⟩
theorem newLs_next (l : List Int) (i : Nat) (h : i < l.length) : newLs (l.take (i + 1)) = newLs (l.take i) ++ [⟨l[i], 0, none, 0, []⟩] := by
  unfold newLs
  rw [List.take_succ_eq_append_getElem h, List.map_append]
  rfl
theorem newLs_len (l : List Int) : (newLs l).length = l.length := by simp [newLs]
theorem filter_sts {Ss : List Sr} {T : Tb} (h : Ss.map stp = T.sts) (full : Bool) : tokensL Ss full = T.toks.filter fun t => !full || T.isFull t := by
  have e : tokensL Ss full = ((Ss.map stp).filter fun p => !full || decide (p.2.1 = (p.2.2.length : Int))).map Prod.fst := by
    unfold tokensL
    rw [List.filter_map, List.map_map]
    rfl
  rw [e, h]
  unfold Tb.sts
  rw [List.filter_map, List.map_map]
  have e2 : (Prod.fst ∘ fun t => (t, (T.got t : Int), T.want t)) = id := rfl
  rw [e2, List.map_id]
  congr 1
  funext t
  show (!full || decide ((T.got t : Int) = ((T.want t).length : Int))) = (!full || decide (T.got t = (T.want t).length))
  rw [show decide ((T.got t : Int) = ((T.want t).length : Int)) = decide (T.got t = (T.want t).length) from decide_eq_decide.2 ⟨fun h => by omega, fun h => by omega⟩]
def Tb.fullL (T : Tb) : List Int := T.toks.filter T.isFull
theorem tokens_all {Ss : List Sr} {T : Tb} (h : Ss.map stp = T.sts) : tokensL Ss false = T.toks := by
  rw [filter_sts h]
  simp
theorem tokens_full {Ss : List Sr} {T : Tb} (h : Ss.map stp = T.sts) : tokensL Ss true = T.fullL := by
  rw [filter_sts h]
  simp [Tb.fullL]
end Go.Proofs.Ytjmgokjljmmmgaa
