/- Texts of this proof, joined: TbA; Sorted; IsMath; IsA; IsB; IsC; IsD; IsE. -/
import Derived.Test.YtbkoogffnchldaaGreatBun8
import Derived.Sort.Grow
import Derived.Sort.EncStr
import Derived.Lib.SlicesCompact
import Derived.Lib.RowBridge
import Derived.Shelf.Abstract
import Derived.Deep.AppendLies
import Derived.Deep.DeepCutAuto
/- Stage 20's program: a table in memory: its maps, its locks, its claims. -/
namespace Go.Proofs.YtbkoogffnchldaaGreat
open Go.RowKit Go.Maps

/-! ### Claims -/
/-- a claim: its list's block, length and room; how many it holds -/
structure Cl where
  g : Option Nat
  n : Nat
  c : Nat
  held : Int
abbrev Cl.v (x : Cl) : Value := .slice (x.g.map fun b => ⟨b, 0, none⟩) x.n x.c
def clv (x : Cl) : Value := .agg #[x.v, .int .i64 x.held]
def cl0 : Cl := ⟨none, 0, 0, 0⟩
def encC (x : Cl) : DataW Unit := .agg [.lit (.int .i64 (match x.g with | none => -1 | some b => (b : Int))), .lit (.int .i64 (x.n : Int)), .lit (.int .i64 (x.c : Int)), .lit (.int .i64 x.held)]
def readC : Value → Option (DataW Unit × List MemPlace)
  | .agg a => match a.toList with
    | [.slice none n c, .int .i64 h] => some (encC ⟨none, n, c, h⟩, [])
    | [.slice (some ⟨b, 0, none⟩) n c, .int .i64 h] => some (encC ⟨some b, n, c, h⟩, [])
    | _ => none
  | _ => none
theorem encC_inj {x y : Cl} (h : encC x = encC y) : x = y := by
  obtain ⟨a, n, c, d⟩ := x
  obtain ⟨a', n', c', d'⟩ := y
  simp only [encC, DataW.agg.injEq, List.cons.injEq, DataW.lit.injEq, Lit.int.injEq, true_and, and_true] at h
  obtain ⟨h1, h2, h3, h4⟩ := h
  have e2 : n = n' := by omega
  have e3 : c = c' := by omega
  subst e2 e3 h4
  cases a <;> cases a' <;> simp only at h1
  · rfl
  · omega
  · omega
  · have : (_ : Nat) = _ := Int.ofNat.inj h1
    rw [this]
theorem readC_inv (v : Value) (y : DataW Unit × List MemPlace) (h : readC v = some y) : ∃ c, v = clv c ∧ y = (encC c, []) := by
  unfold readC at h
  split at h
  · rename_i a
    split at h
    · rename_i n c d e
      refine ⟨⟨none, n, c, d⟩, ?_, (Option.some.inj h).symm⟩
      show Value.agg a = Value.agg _
      rw [← Array.toArray_toList (xs := a), e]
      rfl
    · rename_i b n c d e
      refine ⟨⟨some b, n, c, d⟩, ?_, (Option.some.inj h).symm⟩
      show Value.agg a = Value.agg _
      rw [← Array.toArray_toList (xs := a), e]
      rfl
    · cases h
  · cases h
noncomputable def EC : Elt Tryz.prog 75 where
  α := Cl
  val := clv
  enc := encC
  ok := fun _ => True
  z := cl0
  R := readC
  out := fun x _ => by
    obtain ⟨a, n, c, d⟩ := x
    cases a <;> rfl
  inv := fun v x ps h => by
    obtain ⟨c, h1, h2⟩ := readC_inv v _ h
    rw [h1, encC_inj (congrArg Prod.fst h2)]
  okz := trivial
  hz := fun w => by kernel_rfl
noncomputable def EL : Elt Tryz.prog 87 := EP 87 fun w => by kernel_rfl
/-- the locks' map, the claims' map -/
def MapL (w : World) (b m : Nat) (g : Int → Option (Option Nat)) : Prop := MapG EL 3 w b m g
def MapC (w : World) (b m : Nat) (g : Int → Option Cl) : Prop := MapG EC 3 w b m g
section
variable {w w' : World} {b m : Nat} {g : Int → Option (Option Nat)} {h : Int → Option Cl}
theorem MapL.look1 (hm : MapL w b m g) {id : Int} (hi : I64 id) : (Instr.lookup 77 (.map (some b)) (.int .i64 id) false).run Tryz.prog w = .ok (ptv ((g id).getD none)) w :=
  MapG.look1 (E := EL) hm Tryz.underlying3 Tryz.underlying77 hi
theorem MapC.look1 (hm : MapC w b m h) {id : Int} (hi : I64 id) : (Instr.lookup 78 (.map (some b)) (.int .i64 id) false).run Tryz.prog w = .ok (clv ((h id).getD cl0)) w :=
  MapG.look1 (E := EC) hm Tryz.underlying3 Tryz.underlying78 hi
theorem MapC.look (hm : MapC w b m h) {id : Int} (hi : I64 id) : (Instr.lookup 78 (.map (some b)) (.int .i64 id) true).run Tryz.prog w = .ok (.tuple #[clv ((h id).getD cl0), .bool (h id).isSome]) w :=
  MapG.look (E := EC) hm Tryz.underlying3 Tryz.underlying78 hi
theorem MapL.put (hm : MapL w b m g) (hn : m ≤ 1000000) {id : Int} (hi : I64 id) (y : Option Nat) :
    ∃ w', (Instr.mapUpdate 77 (.map (some b)) (.int .i64 id) (ptv y)).run Tryz.prog w = .ok () w' ∧ MapL w' b (if (g id).isSome then m else m + 1) (updG g id (some y)) ∧ w.grownBy w' (some b) :=
  MapG.stored (E := EL) hm Tryz.underlying3 Tryz.underlying77 (by unfold maxLen; omega) hi y trivial
theorem MapC.put (hm : MapC w b m h) (hn : m ≤ 1000000) {id : Int} (hi : I64 id) (y : Cl) :
    ∃ w', (Instr.mapUpdate 78 (.map (some b)) (.int .i64 id) (clv y)).run Tryz.prog w = .ok () w' ∧ MapC w' b (if (h id).isSome then m else m + 1) (updG h id (some y)) ∧ w.grownBy w' (some b) :=
  MapG.stored (E := EC) hm Tryz.underlying3 Tryz.underlying78 (by unfold maxLen; omega) hi y trivial
end

/-! ### The table -/
/-- what its maps tell -/
def lkG (T : Tb) (pt : Int → Nat) : Int → Option (Option Nat) := fun id => if id ∈ T.ids then some (some (pt id)) else none
def clG (T : Tb) (cl : Int → Cl) : Int → Option Cl := fun t => if t ∈ T.toks then some (cl t) else none
structure TbR (b ml mc : Nat) (pt : Int → Nat) (Gf : Int → Nat → Prop) (cl : Int → Cl) (F : Nat → Prop) (w : World) (T : Tb) : Prop where
  blk : Blk w b [.map (some ml), .map (some mc)]
  lm : MapL w ml T.ids.length (lkG T pt)
  cm : MapC w mc T.toks.length (clG T cl)
  lk : ∀ id ∈ T.ids, LkAt (Gf id) w (ptr18 (pt id)) ⟨id, T.hd id, T.wt id⟩
  ch : ∀ t ∈ T.toks, (cl t).held = (T.got t : Int) ∧ (cl t).n = (T.want t).length ∧ IntsAt w (cl t).v (T.want t)
  cf : ∀ t ∈ T.toks, 0 < (T.want t).length → ∀ k, (cl t).v.ownBlock = some k → F k ∧ k ≠ b ∧ k ≠ ml ∧ k ≠ mc ∧ ∀ id ∈ T.ids, ¬ Gf id k
  ap : ∀ id ∈ T.ids, ¬ Gf id b ∧ ¬ Gf id ml ∧ ¬ Gf id mc
  di : ∀ i ∈ T.ids, ∀ j ∈ T.ids, i ≠ j → ∀ k, Gf i k → ¬ Gf j k
  ne : ml ≠ mc
  fb : F b
  fl : F ml
  fc : F mc
  fg : ∀ id ∈ T.ids, ∀ k, Gf id k → F k
  lt : ∀ k, F k → k < w.heap.size
section
variable {b ml mc : Nat} {pt : Int → Nat} {Gf : Int → Nat → Prop} {cl : Int → Cl} {F : Nat → Prop} {w w' : World} {T : Tb}
theorem TbR.same (h : TbR b ml mc pt Gf cl F w T) (hz : w.heap.size ≤ w'.heap.size) (he : ∀ k, F k → w'.heap[k]? = w.heap[k]?) : TbR b ml mc pt Gf cl F w' T where
  blk := h.blk.same (he b h.fb)
  lm := MapG.same h.lm (he ml h.fl)
  cm := MapG.same h.cm (he mc h.fc)
  lk id hi := (h.lk id hi).same hz fun k hk => he k (h.fg id hi k hk)
  ch t ht := ⟨(h.ch t ht).1, (h.ch t ht).2.1, (h.ch t ht).2.2.rows.same hz (fun h0 k hk => he k (h.cf t ht h0 k hk).1) |> RowsAt.ints⟩
  cf := h.cf
  ap := h.ap
  di := h.di
  ne := h.ne
  fb := h.fb
  fl := h.fl
  fc := h.fc
  fg := h.fg
  lt k hk := Nat.lt_of_lt_of_le (h.lt k hk) hz
theorem TbR.kept (h : TbR b ml mc pt Gf cl F w T) (hb : Below w.heap.size w w') : TbR b ml mc pt Gf cl F w' T := h.same hb.size fun k hk => hb.block k (h.lt k hk)
theorem TbR.blt (h : TbR b ml mc pt Gf cl F w T) : b < w.heap.size := h.lt b h.fb
theorem TbR.bne (h : TbR b ml mc pt Gf cl F w T) : ml ≠ b ∧ mc ≠ b := ⟨MapG.ne_cell h.lm (a := ⟨b, 0, none⟩) (h.blk.cell 0 rfl), MapG.ne_cell h.cm (a := ⟨b, 0, none⟩) (h.blk.cell 0 rfl)⟩
/-- one lock has gone on -/
theorem TbR.lock (h : TbR b ml mc pt Gf cl F w T) {id : Int} (hi : id ∈ T.ids) {G' : Nat → Prop} {hd : Int} {L : List Int} (hl : LkAt G' w' (ptr18 (pt id)) ⟨id, hd, L⟩) (hm : Mv (Gf id) G' w w') :
    TbR b ml mc pt (upF Gf id G') cl (fun k => F k ∨ G' k) w' { T with hd := upF T.hd id hd, wt := upF T.wt id L } ∧ Mv F (fun k => F k ∨ G' k) w w' := by
  have ho := hm.only
  have hz := ho.size
  have hn : ∀ k, k < w.heap.size → ¬ Gf id k → w'.heap[k]? = w.heap[k]? := fun k hk hg => ho.block k hk hg
  have hoff : ∀ k, k < w.heap.size → ¬ Gf id k → ¬ G' k := fun k hk hg => hm.off hk hg
  obtain ⟨a1, a2, a3⟩ := h.ap id hi
  have l1 := h.lt b h.fb
  have l2 := h.lt ml h.fl
  have l3 := h.lt mc h.fc
  refine ⟨{ blk := h.blk.same (hn b l1 a1), lm := MapG.same h.lm (hn ml l2 a2), cm := MapG.same h.cm (hn mc l3 a3), lk := fun i hi2 => ?_, ch := fun t ht => ⟨(h.ch t ht).1, (h.ch t ht).2.1, RowsAt.ints ((h.ch t ht).2.2.rows.same hz fun h0 k hk => ?_)⟩, cf := fun t ht h0 k hk => ?_, ap := fun i hi2 => ?_, di := fun i hi2 j hj hne k => ?_, ne := h.ne, fb := .inl h.fb, fl := .inl h.fl, fc := .inl h.fc, fg := fun i hi2 k hk => ?_, lt := fun k hk => ?_ }, ho.mono (fun k hk => h.fg id hi k hk), fun k hk => ?_⟩
  · show LkAt (upF Gf id G' i) w' (ptr18 (pt i)) ⟨i, upF T.hd id hd i, upF T.wt id L i⟩
    by_cases e : i = id
    · subst e
      rw [upF_same, upF_same, upF_same]
      exact hl
    · rw [upF_ne _ _ e, upF_ne _ _ e, upF_ne _ _ e]
      exact (h.lk i hi2).same hz fun k hk => hn k ((h.lk i hi2).lt k hk) (h.di i hi2 id hi e k hk)
  · obtain ⟨c1, _, _, _, c5⟩ := h.cf t ht h0 k hk
    exact hn k (h.lt k c1) (c5 id hi)
  · obtain ⟨c1, c2, c3, c4, c5⟩ := h.cf t ht h0 k hk
    refine ⟨.inl c1, c2, c3, c4, fun i hi2 => ?_⟩
    by_cases e : i = id
    · subst e; rw [upF_same]; exact hoff k (h.lt k c1) (c5 i hi)
    · rw [upF_ne _ _ e]; exact c5 i hi2
  · by_cases e : i = id
    · subst e; rw [upF_same]; exact ⟨hoff b l1 a1, hoff ml l2 a2, hoff mc l3 a3⟩
    · rw [upF_ne _ _ e]; exact h.ap i hi2
  · by_cases e : i = id
    · subst e
      rw [upF_same, upF_ne _ _ (fun e => hne e.symm)]
      intro hk hj2
      have h1 := (h.lk j hj).lt k hj2
      exact hoff k h1 (fun hg => h.di i hi2 j hj hne k hg hj2) hk
    · rw [upF_ne _ _ e]
      by_cases e2 : j = id
      · subst e2
        rw [upF_same]
        intro hk
        exact hoff k ((h.lk i hi2).lt k hk) (fun hg => h.di i hi2 j hj hne k hk hg)
      · rw [upF_ne _ _ e2]
        exact h.di i hi2 j hj hne k
  · by_cases e : i = id
    · subst e; rw [upF_same] at hk; exact .inr hk
    · rw [upF_ne _ _ e] at hk; exact .inl (h.fg i hi2 k hk)
  · rcases hk with hk | hk
    · exact Nat.lt_of_lt_of_le (h.lt k hk) hz
    · exact hl.lt k hk
  · rcases hk with hk | hk
    · exact .inl hk
    · exact (hm.sub k hk).imp (h.fg id hi k) fun h => h
/-- a claim is laid, or laid anew -/
theorem TbR.claim (h : TbR b ml mc pt Gf cl F w T) {t : Int} {c : Cl} {T' : Tb} {X : Nat → Prop} (h1 : T'.ids = T.ids) (h2 : T'.hd = T.hd) (h3 : T'.wt = T.wt) (h4 : ∀ x, x ∈ T'.toks ↔ x = t ∨ x ∈ T.toks) (h5 : ∀ x, x ≠ t → T'.got x = T.got x ∧ T'.want x = T.want x)
    (hc : c.held = (T'.got t : Int) ∧ c.n = (T'.want t).length ∧ IntsAt w c.v (T'.want t)) (hf : 0 < (T'.want t).length → ∀ k, c.v.ownBlock = some k → (F k ∨ X k) ∧ k ≠ b ∧ k ≠ ml ∧ k ≠ mc ∧ ∀ id ∈ T.ids, ¬ Gf id k) (hX : ∀ k, X k → k < w.heap.size) (hg : w.grownBy w' (some mc)) (hm : MapC w' mc T'.toks.length (updG (clG T cl) t (some c))) :
    TbR b ml mc pt Gf (upF cl t c) (fun k => F k ∨ X k) w' T' := by
  have hz := hg.size
  obtain ⟨n1, n2⟩ := h.bne
  have hn : ∀ k, k < w.heap.size → k ≠ mc → w'.heap[k]? = w.heap[k]? := fun k hk hne => hg.block k hk fun e => hne (Option.some.inj e)
  have l1 := h.lt b h.fb
  have l2 := h.lt ml h.fl
  refine { blk := h.blk.same (hn b l1 (fun e => n2 e.symm)), lm := ?_, cm := ?_, lk := fun id hi => ?_, ch := fun x hx => ?_, cf := fun x hx => ?_, ap := fun id hi => h.ap id (h1 ▸ hi), di := fun i hi j hj => h.di i (h1 ▸ hi) j (h1 ▸ hj), ne := h.ne, fb := .inl h.fb, fl := .inl h.fl, fc := .inl h.fc, fg := fun id hi k hk => .inl (h.fg id (h1 ▸ hi) k hk), lt := fun k hk => hk.elim (fun hk => Nat.lt_of_lt_of_le (h.lt k hk) hz) fun hk => Nat.lt_of_lt_of_le (hX k hk) hz }
  · have e : lkG T' pt = lkG T pt := by unfold lkG; rw [h1]
    rw [e, h1]
    exact MapG.same h.lm (hn ml l2 h.ne)
  · have e : clG T' (upF cl t c) = updG (clG T cl) t (some c) := by
      funext x
      show (if x ∈ T'.toks then some (upF cl t c x) else none) = (if x = t then some c else (if x ∈ T.toks then some (cl x) else none))
      by_cases e : x = t
      · rw [if_pos ((h4 x).2 (.inl e)), if_pos e, e, upF_same]
      · rw [if_neg e]
        by_cases hx : x ∈ T.toks
        · rw [if_pos ((h4 x).2 (.inr hx)), if_pos hx, upF_ne _ _ e]
        · rw [if_neg (fun h => ((h4 x).1 h).elim e hx), if_neg hx]
    rw [e]
    exact hm
  · rw [h2, h3]
    have hi := h1 ▸ hi
    exact (h.lk id hi).same hz fun k hk => hn k ((h.lk id hi).lt k hk) fun e => (h.ap id hi).2.2 (e ▸ hk)
  · by_cases e : x = t
    · subst e
      rw [upF_same]
      refine ⟨hc.1, hc.2.1, RowsAt.ints (hc.2.2.rows.same hz fun h0 k hk => ?_)⟩
      obtain ⟨c1, _, _, c4, _⟩ := hf h0 k hk
      exact hn k (c1.elim (h.lt k) (hX k)) c4
    · rw [upF_ne _ _ e, (h5 x e).1, (h5 x e).2]
      have hx := ((h4 x).1 hx).resolve_left e
      refine ⟨(h.ch x hx).1, (h.ch x hx).2.1, RowsAt.ints ((h.ch x hx).2.2.rows.same hz fun h0 k hk => ?_)⟩
      obtain ⟨c1, _, _, c4, _⟩ := h.cf x hx h0 k hk
      exact hn k (h.lt k c1) c4
  · rw [h1]
    by_cases e : x = t
    · subst e
      rw [upF_same]
      exact hf
    · rw [upF_ne _ _ e, (h5 x e).2]
      have hx := ((h4 x).1 hx).resolve_left e
      exact fun h0 k hk => by
        obtain ⟨c1, c2⟩ := h.cf x hx h0 k hk
        exact ⟨.inl c1, c2⟩
/-- a claim is deleted -/
theorem TbR.drop (h : TbR b ml mc pt Gf cl F w T) {t : Int} {T' : Tb} (h1 : T'.ids = T.ids) (h2 : T'.hd = T.hd) (h3 : T'.wt = T.wt) (h4 : T'.toks = T.toks.filter fun x => decide (x ≠ t)) (h5 : T'.got = T.got) (h6 : T'.want = T.want)
    (hg : w.grownBy w' (some mc)) (hm : MapC w' mc T'.toks.length (updG (clG T cl) t none)) : TbR b ml mc pt Gf cl F w' T' := by
  have hz := hg.size
  obtain ⟨n1, n2⟩ := h.bne
  have hn : ∀ k, k < w.heap.size → k ≠ mc → w'.heap[k]? = w.heap[k]? := fun k hk hne => hg.block k hk fun e => hne (Option.some.inj e)
  have hs : ∀ x ∈ T'.toks, x ∈ T.toks ∧ x ≠ t := fun x hx => by rw [h4] at hx; simpa using hx
  refine { blk := h.blk.same (hn b (h.lt b h.fb) (fun e => n2 e.symm)), lm := ?_, cm := ?_, lk := fun id hi => ?_, ch := fun x hx => ?_, cf := fun x hx => ?_, ap := fun id hi => h.ap id (h1 ▸ hi), di := fun i hi j hj => h.di i (h1 ▸ hi) j (h1 ▸ hj), ne := h.ne, fb := h.fb, fl := h.fl, fc := h.fc, fg := fun id hi k hk => h.fg id (h1 ▸ hi) k hk, lt := fun k hk => Nat.lt_of_lt_of_le (h.lt k hk) hz }
  · have e : lkG T' pt = lkG T pt := by unfold lkG; rw [h1]
    rw [e, h1]
    exact MapG.same h.lm (hn ml (h.lt ml h.fl) h.ne)
  · have e : clG T' cl = updG (clG T cl) t none := by
      funext x
      show (if x ∈ T'.toks then some (cl x) else none) = (if x = t then none else (if x ∈ T.toks then some (cl x) else none))
      by_cases e : x = t
      · rw [if_pos e, if_neg (fun h => (hs x h).2 e)]
      · rw [if_neg e]
        by_cases hx : x ∈ T.toks
        · rw [if_pos (by rw [h4]; simp [hx, e]), if_pos hx]
        · rw [if_neg (fun h => hx (hs x h).1), if_neg hx]
    rw [e]
    exact hm
  · rw [h2, h3]
    have hi := h1 ▸ hi
    exact (h.lk id hi).same hz fun k hk => hn k ((h.lk id hi).lt k hk) fun e => (h.ap id hi).2.2 (e ▸ hk)
  · have hx := (hs x hx).1
    rw [h5, h6]
    refine ⟨(h.ch x hx).1, (h.ch x hx).2.1, RowsAt.ints ((h.ch x hx).2.2.rows.same hz fun h0 k hk => ?_)⟩
    obtain ⟨c1, _, _, c4, _⟩ := h.cf x hx h0 k hk
    exact hn k (h.lt k c1) c4
  · rw [h6, h1]
    exact h.cf x (hs x hx).1
end

/-- a table -/
def TbAt (F : Nat → Prop) (w : World) (v : Value) (T : Tb) : Prop := T.Ok ∧ ∃ b ml mc pt Gf cl, v = ptr18 b ∧ TbR b ml mc pt Gf cl F w T
theorem TbAt.same {F : Nat → Prop} {w w' : World} {v : Value} {T : Tb} (h : TbAt F w v T) (hz : w.heap.size ≤ w'.heap.size) (he : ∀ k, F k → w'.heap[k]? = w.heap[k]?) : TbAt F w' v T := by
  obtain ⟨h0, b, ml, mc, pt, Gf, cl, rfl, h1⟩ := h
  exact ⟨h0, b, ml, mc, pt, Gf, cl, rfl, h1.same hz he⟩
theorem TbAt.lt {F : Nat → Prop} {w : World} {v : Value} {T : Tb} (h : TbAt F w v T) : ∀ k, F k → k < w.heap.size := by
  obtain ⟨h0, b, ml, mc, pt, Gf, cl, rfl, h1⟩ := h
  exact h1.lt
theorem OkX.ids64 {T : Tb} {x : Option Int} (h : OkX T x) {id : Int} (hi : id ∈ T.ids) : I64 id := by
  have := may_pos h.may id hi
  unfold I64
  omega
theorem OkX.tok64 {T : Tb} {x : Option Int} (h : OkX T x) {t : Int} (ht : t ∈ T.toks) : I64 t := (h.pos t ht).2
theorem lkG_at {T : Tb} (pt : Int → Nat) {id : Int} (hi : id ∈ T.ids) : ptv ((lkG T pt id).getD none) = ptr18 (pt id) := by
  unfold lkG
  rw [if_pos hi]
  rfl
theorem clG_at {T : Tb} (cl : Int → Cl) {t : Int} (ht : t ∈ T.toks) : (clG T cl t).getD cl0 = cl t ∧ (clG T cl t).isSome = true := by
  unfold clG
  rw [if_pos ht]
  exact ⟨rfl, rfl⟩
theorem clG_no {T : Tb} (cl : Int → Cl) {t : Int} (ht : t ∉ T.toks) : (clG T cl t).getD cl0 = cl0 ∧ (clG T cl t).isSome = false := by
  unfold clG
  rw [if_neg ht]
  exact ⟨rfl, rfl⟩
end Go.Proofs.YtbkoogffnchldaaGreat
/- A list of numbers that the call has gathered, sorted and without repetitions: what the library's contracts give. -/
namespace Go.Proofs.YtbkoogffnchldaaGreat
open Go.RowKit Go.Sort

/-! ### Lists that rise -/
theorem rise_ext : ∀ {l r : List Int}, l.Pairwise (· < ·) → r.Pairwise (· < ·) → (∀ m, m ∈ l ↔ m ∈ r) → l = r
  | [], [], _, _, _ => rfl
  | [], y :: r, _, _, h => absurd ((h y).2 (by simp)) (by simp)
  | x :: l, [], _, _, h => absurd ((h x).1 (by simp)) (by simp)
  | x :: l, y :: r, hl, hr, h => by
    rw [List.pairwise_cons] at hl hr
    have e : x = y := by
      have h1 := (h x).1 (by simp)
      have h2 := (h y).2 (by simp)
      rw [List.mem_cons] at h1 h2
      rcases h1 with h1 | h1
      · exact h1
      · rcases h2 with h2 | h2
        · exact h2.symm
        · have := hl.1 _ h2
          have := hr.1 _ h1
          omega
    subst e
    have : l = r := rise_ext hl.2 hr.2 fun m => by
      have := h m
      rw [List.mem_cons, List.mem_cons] at this
      constructor
      · intro hm
        have h3 := hl.1 _ hm
        rcases this.1 (.inr hm) with rfl | h4
        · omega
        · exact h4
      · intro hm
        have h3 := hr.1 _ hm
        rcases this.2 (.inr hm) with rfl | h4
        · omega
        · exact h4
    rw [this]

theorem sorted_ms (zs : List Int) : (zs.mergeSort fun x y => decide (x ≤ y)).Pairwise (· ≤ ·) := by
  have := List.pairwise_mergeSort (le := fun x y : Int => decide (x ≤ y)) (fun a b c h1 h2 => by simp at *; omega) (fun a b => by simp; omega) zs
  exact this.imp fun h => by simpa using h

theorem compact_rise {zs : List Int} (h : zs.Pairwise (· ≤ ·)) : (Lib.compact zs).Pairwise (· < ·) := by
  unfold Lib.compact Lib.compactUpTo
  rw [List.pairwise_map]
  have h1 : (List.range zs.length).Pairwise (· < ·) := List.pairwise_lt_range
  have h2 := h1.filter (Lib.keeps zs.toArray)
  refine List.Pairwise.imp_of_mem (fun {i j} hi hj hij => ?_) h2
  have hjm := List.mem_filter.1 hj
  have hjl : j < zs.length := List.mem_range.1 hjm.1
  have hk := hjm.2
  unfold Lib.keeps at hk
  rw [decide_eq_true_eq] at hk
  rcases hk with hk | hk
  · omega
  · have g : ∀ a b, a ≤ b → b < zs.length → zs.toArray[a]! ≤ zs.toArray[b]! := by
      intro a b hab hb
      rcases Nat.lt_or_ge a b with hlt | hge
      · have := List.pairwise_iff_getElem.1 h a b (by omega) hb hlt
        simpa [getElem!_pos, show a < zs.length by omega, hb] using this
      · have : a = b := by omega
        subst this
        exact Int.le_refl _
    have h3 := g i (j - 1) (by omega) (by omega)
    have h4 := g (j - 1) j (by omega) hjl
    omega

theorem compact_mem (zs : List Int) (m : Int) : m ∈ Lib.compact zs ↔ m ∈ zs := by
  unfold Lib.compact Lib.compactUpTo
  rw [List.mem_map]
  constructor
  · rintro ⟨i, hi, rfl⟩
    have := List.mem_range.1 (List.mem_filter.1 hi).1
    simp [getElem!_pos, this]
  · intro hm
    obtain ⟨i, hi, rfl⟩ := List.getElem_of_mem hm
    have key : ∀ n, ∀ i (hi : i < zs.length), i < n → ∃ a, a ∈ (List.range zs.length).filter (Lib.keeps zs.toArray) ∧ zs.toArray[a]! = zs[i] := by
      intro n
      induction n with
      | zero => intro i hi h; omega
      | succ n ih =>
        intro i hi h
        by_cases hk : Lib.keeps zs.toArray i = true
        · exact ⟨i, List.mem_filter.2 ⟨List.mem_range.2 hi, hk⟩, by simp [getElem!_pos, hi]⟩
        · unfold Lib.keeps at hk
          rw [decide_eq_true_eq] at hk
          have h0 : i ≠ 0 := fun e => hk (.inl e)
          have h1 : zs.toArray[i]! = zs.toArray[i - 1]! := by
            by_cases e : zs.toArray[i]! = zs.toArray[i - 1]!
            · exact e
            · exact absurd (.inr e) hk
          obtain ⟨a, ha, he⟩ := ih (i - 1) (by omega) (by omega)
          refine ⟨a, ha, ?_⟩
          rw [he]
          simp [getElem!_pos, hi, show i - 1 < zs.length by omega] at h1
          exact h1.symm
    exact key (i + 1) i hi (by omega)

/-! ### In memory -/
theorem below_row {B blk off n : Nat} {a w : World} {d : Array Int} {os : Array Obj} (h : Below B a w) (hb : B ≤ blk) (hz : B ≤ w.heap.size) : Below B a (grow (putRow (Value.int .i64) (Sort.ahead w n) blk off d) os) := by
  refine h.trans ⟨rfl, rfl, rfl, by simp, fun k hk => ?_⟩
  rw [heap_grow_old _ _ (by simp; omega)]
  have : blk ≠ k := by omega
  simp [putRow, mapBlock, Sort.ahead, Array.getElem?_modify, this]
theorem below_row' {B blk off n : Nat} {a w : World} {d : Array Int} (h : Below B a w) (hb : B ≤ blk) (hz : B ≤ w.heap.size) : Below B a (putRow (Value.int .i64) (Sort.ahead w n) blk off d) := by
  have := below_row (n := n) (off := off) (d := d) (os := #[]) h hb hz
  rwa [grow_empty] at this
theorem ints_of_holds {w : World} {blk cap : Nat} {zs : List Int} {d : Array Int} (hH : Holds (Value.int .i64) w blk 0 d) (hb : blk < w.heap.size) (hd : ∀ j x, zs[j]? = some x → j < d.size ∧ d[j]! = x) (hc : zs.length ≤ cap) : IntsAt w (.slice (some ⟨blk, 0, none⟩) zs.length cap) zs := by
  refine ⟨_, cap, rfl, hc, fun _ => ⟨blk, 0, rfl, hb, fun j x hj => ?_⟩⟩
  obtain ⟨h1, h2⟩ := hd j x hj
  have := (hH j h1).1
  rw [h2] at this
  exact this
/-- a list that the call has gathered, of at least one -/
theorem OwnI.holds {w : World} {B : Nat} {v : Value} {l : List Int} (h : OwnI w B v l) (h0 : 0 < l.length) :
    ∃ g cap, v = .slice (some ⟨g, 0, none⟩) l.length cap ∧ B ≤ g ∧ g < w.heap.size ∧ l.length ≤ cap ∧ Holds (Value.int .i64) w g 0 l.toArray := by
  rcases h.2 with ⟨rfl, he⟩ | ⟨g, cap, cur, rfl, hg, hh, hnc, hcp, hcs, htake⟩
  · omega
  · refine ⟨g, cap, rfl, hg, (Array.getElem?_eq_some_iff.1 hh).1, hnc, fun j hj => ?_⟩
    have hj' : j < l.length := by simpa using hj
    refine ⟨?_, by simp [World.frozen?, hh]⟩
    have h1 := flats_at csI_len l j l[j] (List.getElem?_eq_getElem hj') 0 (.int .i64 l[j]) rfl
    rw [Nat.mul_one, Nat.add_zero, ← htake, List.getElem?_take_of_lt (by omega)] at h1
    simp only [World.cell?, hh, Nat.zero_add]
    simp [hj'] at h1 ⊢
    exact h1

/-- behind the sort and Compact -/
theorem ints_compact {w : World} {g cap n q : Nat} {os : Array Obj} {l : List Int} (hH : Holds (Value.int .i64) w g 0 l.toArray) (hg : g < w.heap.size) (hc : l.length ≤ cap) :
    IntsAt (putRow (Value.int .i64) (Sort.ahead (grow (putRow (Value.int .i64) (Sort.ahead w n) g 0 (l.mergeSort fun x y => decide (x ≤ y)).toArray) os) q) g 0 (Lib.compact (l.mergeSort fun x y => decide (x ≤ y)) ++ List.replicate ((l.mergeSort fun x y => decide (x ≤ y)).length - (Lib.compact (l.mergeSort fun x y => decide (x ≤ y))).length) 0).toArray)
      (.slice (some ⟨g, 0, none⟩) (Lib.compact (l.mergeSort fun x y => decide (x ≤ y))).length cap) (Lib.compact (l.mergeSort fun x y => decide (x ≤ y))) := by
  have hlen : (l.mergeSort fun x y => decide (x ≤ y)).length = l.length := List.length_mergeSort l
  generalize (l.mergeSort fun x y => decide (x ≤ y)) = s at *
  have hcl := Lib.compact_length_le s
  have H1 : Holds (Value.int .i64) (grow (putRow (Value.int .i64) (Sort.ahead w n) g 0 s.toArray) os) g 0 s.toArray :=
    holds_grow _ _ _ _ _ _ (by simpa using hg) (holds_putRow _ _ _ _ l.toArray _ (holds_ahead _ _ _ _ _ _ hH) (by simpa using hlen))
  have H2 := holds_putRow (Value.int .i64) (Sort.ahead (grow (putRow (Value.int .i64) (Sort.ahead w n) g 0 s.toArray) os) q) g 0 s.toArray (Lib.compact s ++ List.replicate (s.length - (Lib.compact s).length) 0).toArray (holds_ahead _ _ _ _ _ _ H1) (by simp; omega)
  refine ints_of_holds H2 (by simp; omega) (fun j x hj => ?_) (by omega)
  have hjl := (List.getElem?_eq_some_iff.1 hj).1
  refine ⟨by simp; omega, ?_⟩
  rw [getElem!_pos _ _ (by simp; omega)]
  rw [List.getElem?_eq_getElem hjl] at hj
  simp [List.getElem_append_left hjl]
  exact Option.some.inj hj
theorem holds_sorted {w : World} {g n : Nat} {os : Array Obj} {l : List Int} (hH : Holds (Value.int .i64) w g 0 l.toArray) (hg : g < w.heap.size) :
    Holds (Value.int .i64) (grow (putRow (Value.int .i64) (Sort.ahead w n) g 0 (l.mergeSort fun x y => decide (x ≤ y)).toArray) os) g 0 (l.mergeSort fun x y => decide (x ≤ y)).toArray :=
  holds_grow _ _ _ _ _ _ (by simpa using hg) (holds_putRow _ _ _ _ l.toArray _ (holds_ahead _ _ _ _ _ _ hH) (by simp))
end Go.Proofs.YtbkoogffnchldaaGreat
/- Stage 17's program: plain mathematics of what is asked and told, one number behind the other. -/
namespace Go.Proofs.YtbkoogffnchldaaGreat

/-- one number behind the other is asked, till it is so of one -/
def runS {σ : Type} (f : σ → Int → σ × Bool) : σ → List Int → σ × Bool
  | s, [] => (s, false)
  | s, x :: l => if (f s x).2 then ((f s x).1, true) else runS f (f s x).1 l
theorem runS_cons {σ : Type} (f : σ → Int → σ × Bool) (s : σ) (x : Int) (l : List Int) : runS f s (x :: l) = if (f s x).2 then ((f s x).1, true) else runS f (f s x).1 l := rfl
theorem runS_no {σ : Type} (f : σ → Int → σ × Bool) (s : σ) (l : List Int) (k : Nat) (h : k < l.length) (hf : (f s l[k]).2 = false) : runS f s (l.drop k) = runS f (f s l[k]).1 (l.drop (k + 1)) := by
  rw [List.drop_eq_getElem_cons h, runS_cons, hf]
  simp
theorem runS_yes {σ : Type} (f : σ → Int → σ × Bool) (s : σ) (l : List Int) (k : Nat) (h : k < l.length) (hf : (f s l[k]).2 = true) : runS f s (l.drop k) = ((f s l[k]).1, true) := by
  rw [List.drop_eq_getElem_cons h, runS_cons, hf]
  simp
theorem runS_end {σ : Type} (f : σ → Int → σ × Bool) (s : σ) (l : List Int) : runS f s (l.drop l.length) = (s, false) := by
  rw [List.drop_length]
  rfl
theorem runS_each {σ : Type} (g : σ → Int → σ) : ∀ (l : List Int) (s : σ), runS (fun s x => (g s x, false)) s l = (l.foldl g s, false)
  | [], _ => rfl
  | x :: l, s => by
    have := runS_each g l (g s x)
    rw [runS_cons]
    simpa using this
theorem runS_any (p : Int → Bool) : ∀ (l : List Int), (runS (fun (_ : Unit) x => ((), p x)) () l).2 = l.any p
  | [] => rfl
  | x :: l => by
    have := runS_any p l
    rw [runS_cons]
    cases h : p x <;> simp_all
theorem any_in (l : List Int) (n : Int) : l.any (fun m => m == n) = inL l n := by
  unfold inL
  rw [Bool.eq_iff_iff, List.any_eq_true, decide_eq_true_iff]
  constructor
  · rintro ⟨x, h1, h2⟩
    have := eq_of_beq h2
    rwa [← this]
  · intro h
    exact ⟨n, h, by simp⟩
theorem any_not (a b : List Int) : (!a.any fun x => !inL b x) = withinB a b := by
  rw [Bool.eq_iff_iff, within_iff, List.not_any_eq_all_not, List.all_eq_true]
  constructor
  · intro h x hx
    have := h x hx
    rw [Bool.not_not] at this
    exact inL_iff.1 this
  · intro h x hx
    rw [Bool.not_not]
    exact inL_iff.2 (h x hx)
/-- does it not rise -/
def rgt (a n : Int) : Int × Bool := (n, !decide (a < n))
theorem ris_two {a x : Int} {l : List Int} : risL (a :: x :: l) ↔ a < x ∧ risL (x :: l) := by
  unfold risL
  rw [List.pairwise_cons]
  constructor
  · rintro ⟨h1, h2⟩
    exact ⟨h1 x (by simp), h2⟩
  · rintro ⟨h1, h2⟩
    refine ⟨fun y hy => ?_, h2⟩
    rcases List.mem_cons.1 hy with rfl | hy
    · exact h1
    · have := (List.pairwise_cons.1 h2).1 y hy
      omega
theorem runS_right : ∀ (l : List Int) (a : Int), (runS rgt a l).2 = !rightB (a :: l)
  | [], a => by
    have : risL [a] := List.pairwise_singleton _ _
    simp [runS, rightB, this]
  | x :: l, a => by
    have ih := runS_right l x
    rw [runS_cons]
    show (if (!decide (a < x)) = true then (x, true) else runS rgt x l).2 = _
    by_cases h : a < x
    · have e : rightB (a :: x :: l) = rightB (x :: l) := by
        unfold rightB
        exact decide_eq_decide.2 (ris_two.trans (and_iff_right h))
      rw [e, ← ih]
      simp [h]
    · have e : rightB (a :: x :: l) = false := by
        unfold rightB
        exact decide_eq_false fun hr => h (ris_two.1 hr).1
      rw [e]
      simp [h]
/-- the least above n of those that were told -/
def abS (n : Int) (s : Int × Bool) (m : Int) : Int × Bool := if n < m ∧ (s.2 = false ∨ m < s.1) then (m, true) else s
def AbI (n : Int) (p : List Int) (s : Int × Bool) : Prop := (s = (0, false) ∧ ∀ x ∈ p, x ≤ n) ∨ (s.2 = true ∧ s.1 ∈ p ∧ n < s.1 ∧ ∀ x ∈ p, n < x → s.1 ≤ x)
theorem AbI.step {n : Int} {p : List Int} {s : Int × Bool} (h : AbI n p s) (m : Int) : AbI n (p ++ [m]) (abS n s m) := by
  unfold abS
  obtain ⟨a, b⟩ := s
  by_cases hc : n < m ∧ (b = false ∨ m < a)
  · rw [if_pos hc]
    refine .inr ⟨rfl, by simp, hc.1, fun x hx hn => ?_⟩
    rcases List.mem_append.1 hx with hx | hx
    · rcases h with ⟨e, h⟩ | ⟨e, h1, h2, h3⟩
      · have := h x hx; omega
      · have h4 := h3 x hx hn
        have h5 : m < a := hc.2.resolve_left fun e2 => by simp only at e; rw [e2] at e; cases e
        simp only at h4 ⊢
        omega
    · rw [List.mem_singleton.1 hx]
      exact Int.le_refl _
  · rw [if_neg hc]
    rcases h with ⟨e, h⟩ | ⟨e, h1, h2, h3⟩
    · refine .inl ⟨e, fun x hx => ?_⟩
      rcases List.mem_append.1 hx with hx | hx
      · exact h x hx
      · rw [List.mem_singleton.1 hx]
        cases e
        exact Int.not_lt.1 fun h => hc ⟨h, .inl rfl⟩
    · refine .inr ⟨e, List.mem_append_left _ h1, h2, fun x hx hn => ?_⟩
      rcases List.mem_append.1 hx with hx | hx
      · exact h3 x hx hn
      · rw [List.mem_singleton.1 hx] at hn ⊢
        exact Int.not_lt.1 fun h => hc ⟨hn, .inr h⟩
theorem AbI.fold {n : Int} : ∀ (l p : List Int) (s : Int × Bool), AbI n p s → AbI n (p ++ l) (l.foldl (abS n) s)
  | [], p, s, h => by simpa using h
  | x :: l, p, s, h => by
    have := AbI.fold l (p ++ [x]) _ (h.step x)
    rw [List.append_assoc] at this
    exact this
theorem AbI.is {n : Int} {l : List Int} {s : Int × Bool} (h : AbI n l s) : s = abvL l n := by
  unfold abvL
  rcases h with ⟨e, h⟩ | ⟨e, h1, h2, h3⟩
  · have hf : (setL l).find? (fun x => decide (n < x)) = none := by
      rw [List.find?_eq_none]
      intro x hx
      have := h x ((setL_mem l x).1 hx)
      simp; omega
    rw [hf, e]
  · obtain ⟨a, b⟩ := s
    simp only at e h1 h2 h3
    subst e
    obtain ⟨k, hk, e⟩ := List.getElem_of_mem ((setL_mem l a).2 h1)
    have hr := setL_ris l
    have hf := ris_find (n := n) hr hk (by omega) fun i hi => by
      have h4 := List.pairwise_iff_getElem.1 hr i k (by omega) hk hi
      have h5 := h3 _ ((setL_mem l _).1 (List.getElem_mem (show i < (setL l).length by omega)))
      omega
    rw [hf, e]
theorem abv_fold (l : List Int) (n : Int) : l.foldl (abS n) (0, false) = abvL l n := (AbI.fold l [] (0, false) (.inl ⟨rfl, fun _ h => by cases h⟩)).is
/-- those that are wanted -/
def pkS (p : Int → Bool) (t : List Int) (x : Int) : List Int := if p x then t ++ [x] else t
theorem pk_fold (p : Int → Bool) : ∀ (l t : List Int), l.foldl (pkS p) t = t ++ l.filter p
  | [], t => by simp
  | x :: l, t => by
    have := pk_fold p l (pkS p t x)
    rw [List.foldl_cons, this]
    unfold pkS
    cases h : p x <;> simp [h]
theorem pick_pos (a b : List Int) : (setL a).filter (inL b) = andL a b := by
  unfold andL pickL
  congr 1
  funext x
  cases inL b x <;> rfl
theorem pick_neg (a b : List Int) : ((setL a).filter fun x => !inL b x) = lessL a b := by
  unfold lessL pickL
  congr 1
  funext x
  cases inL b x <;> rfl
theorem inL_set (b : List Int) (x : Int) : inL (setL b) x = inL b x := by
  unfold inL
  exact decide_eq_decide.2 (setL_mem b x)
theorem or_cat (a b : List Int) : setL ([a, b].flatten) = orL a b := by
  unfold orL
  simp
theorem set_sort (l : List Int) : Lib.compact (l.mergeSort fun x y => decide (x ≤ y)) = setL l := by
  refine rise_ext (compact_rise (sorted_ms l)) (setL_ris l) fun m => ?_
  rw [compact_mem, List.mem_mergeSort, setL_mem]
end Go.Proofs.YtbkoogffnchldaaGreat
/- Stage 17's program: some: a function that is handed on is asked one number of a list behind the other. -/
namespace Go.Proofs.YtbkoogffnchldaaGreat
open Go.RowKit

/-- what a handed function keeps: s, in the blocks F -/
structure KeepJ {σ : Type} (J : σ → (Nat → Prop) → World → Prop) : Prop where
  lt : ∀ {s F w}, J s F w → ∀ k, F k → k < w.heap.size
  out : ∀ {s F w w'}, J s F w → w.heap.size ≤ w'.heap.size → (∀ k, F k → w'.heap[k]? = w.heap[k]?) → J s F w'
theorem KeepJ.kept {σ : Type} {J : σ → (Nat → Prop) → World → Prop} (T : KeepJ J) {s : σ} {F : Nat → Prop} {w w' : World} (h : J s F w) (hb : Below w.heap.size w w') : J s F w' := T.out h hb.size fun k hk => hb.block k (T.lt h k hk)

set_option maxHeartbeats 1000000 in
theorem iSome_any {σ : Type} {J : σ → (Nat → Prop) → World → Prop} (f : σ → Int → σ × Bool) (g : FuncId) (q : Value) (eg : ∀ args w, (callFunc g args).run Tryz.prog w = .ok (.enter g args) w)
    (va : Value) (l : List Int) (w : World) (hl : IntsAt w va l) (hlen : l.length ≤ 1000000) (s0 : σ) (F0 : Nat → Prop) (hF : OffV F0 va l.length) (hJ : J s0 F0 w) (R : Nat → σ → Prop) (hR0 : R 0 s0) (hRs : ∀ k s x, R k s → R (k + 1) (f s x).1)
    (hT : ∀ s F w' x k, x ∈ l → k < l.length → R k s → J s F w' → Only F0 w w' → Calls Tryz.prog g #[.int .i64 x, q] w' fun e w'' => e = .returned (.bool (f s x).2) ∧ ∃ F', J (f s x).1 F' w'' ∧ Mv F F' w' w'') :
    Calls Tryz.prog 63 #[va, .func (.func g) #[] #[q]] w fun e w' => e = .returned (.bool (runS f s0 l).2) ∧ ∃ F', J (runS f s0 l).1 F' w' ∧ Mv F0 F' w w' := by
  obtain ⟨r, hr⟩ : ∃ r, runS f s0 l = r := ⟨_, rfl⟩
  rw [hr]
  have HR := Lib.hid hr
  have HT := Lib.hid hT
  have HRS := Lib.hid hRs
  have HR0 := Lib.hid hR0
  have HJ := Lib.hid hJ
  have HF := Lib.hid hF
  have HL := Lib.hid hl
  have HLE := Lib.hid hlen
  obtain ⟨a, c, rfl⟩ := hl.form
  clear hr hT hJ hF hl hRs hR0
  go_enter Tryz.func63, Tryz.ntmps63
  go_wp2
  refine wp_scope_goto 0 (fun n a' w' => ∃ (j : Nat) (z : Int) (s : σ) (F : Nat → Prop), n = l.length - j ∧ z = j ∧ j ≤ l.length ∧ runS f s (l.drop j) = r ∧ R j s ∧ J s F w' ∧ Mv F0 F w w' ∧ ∃ u2 u3 u6 u7 u8 u9 u10 u11 u12 u13 u14 u15 u16 u17, a' = { tmps := #[.slice a l.length c, .func (.func g) #[] #[q], u2, u3, .bool false, .int .i64 z, u6, u7, u8, u9, u10, u11, u12, u13, u14, u15, u16, u17], defers := [] }) rfl rfl ?_ ?_
  · rintro n a' w' ⟨j, _, s, F, rfl, rfl, hj, hrun, hrk, hj2, hmv, u2, u3, u6, u7, u8, u9, u10, u11, u12, u13, u14, u15, u16, u17, rfl⟩ K hK
    have HK := Lib.hid hK
    have HJ2 := Lib.hid hj2
    have HM := Lib.hid hmv
    have HRU := Lib.hid hrun
    have HRK := Lib.hid hrk
    clear hK hj2 hmv hrun hrk
    by_cases hlt : j < l.length
    · have hrow := (HL.out.rows.only HM.out.only HF.out).ints
      obtain ⟨gb, o, cc, e, hlc, _, p0⟩ := hrow.spot j hlt
      cases e
      have hx := HT.out s F w' l[j] j (List.getElem_mem hlt) hlt HRK.out HJ2.out HM.out.only
      have hrn := HRS.out j s l[j] HRK.out
      have hno := runS_no f s l j hlt
      have hyes := runS_yes f s l j hlt
      generalize l[j] = x at *
      obtain ⟨s', b, hsb⟩ : ∃ s' b, f s x = (s', b) := ⟨_, _, rfl⟩
      rw [hsb] at hx hno hyes hrn
      have HRN := Lib.hid hrn
      have HX := Lib.hid hx
      have HN := Lib.hid hno
      have HY := Lib.hid hyes
      have j0 : (0 : Int) ≤ (j : Int) := by omega
      have j1 : (j : Int) < (l.length : Int) := by omega
      clear hx hno hyes hsb hrow hrn
      cases b with
      | false =>
        go_wp2_with (go_at_fn g; (with_reducible refine HX.out.mono ?_); rintro e w1 ⟨rfl, F', hj1, hm1⟩; have HJ3 := Lib.hid hj1; have HM3 := Lib.hid hm1; clear hj1 hm1)
        go_step3
        exact ⟨rfl, HK.out (l.length - (j + 1)) _ _ (by omega) ⟨j + 1, _, s', F', rfl, by omega, by omega, (HN.out trivial).symm.trans HRU.out, HRN.out, HJ3.out, HM.out.trans HM3.out, _, _, _, _, _, _, _, _, _, _, _, _, _, _,  rfl⟩⟩
      | true =>
        go_wp2_with (go_at_fn g; (with_reducible refine HX.out.mono ?_); rintro e w1 ⟨rfl, F', hj1, hm1⟩; have HJ3 := Lib.hid hj1; have HM3 := Lib.hid hm1; clear hj1 hm1)
        simp only [Exit.jump]
        go_ret
        have hrr := (HY.out trivial).symm.trans HRU.out
        rw [← hrr]
        exact ⟨rfl, F', HJ3.out, HM.out.trans HM3.out⟩
    · have e : j = l.length := by omega
      subst e
      have hrr := HRU.out
      rw [runS_end] at hrr
      have HRR := Lib.hid hrr
      clear hrr hlt
      go_wp2
      simp only [Exit.jump]
      go_ret
      rw [← HRR.out]
      exact ⟨rfl, F, HJ2.out, HM.out⟩
  · intro K hpass
    go_wp2
    go_step3
    rename_i hback
    exact hback _ _ (hpass (l.length - 0) _ _ ⟨0, _, s0, F0, rfl, rfl, by omega, HR.out, HR0.out, HJ.out, Mv.refl _ _, _, _, _, _, _, _, _, _, _, _, _, _, _, _,  rfl⟩)
end Go.Proofs.YtbkoogffnchldaaGreat
/- Stage 17's program: each: a function that is handed on is told one number of a list behind the other. -/
namespace Go.Proofs.YtbkoogffnchldaaGreat
open Go.RowKit

/-- what is told, and the box b in which the function (tv) lies that is told -/
def EaJ {σ : Type} (J : σ → (Nat → Prop) → World → Prop) (b : Nat) (tv : Value) (s : σ) (F : Nat → Prop) (w : World) : Prop := ∃ F1, J s F1 w ∧ ¬ F1 b ∧ (∀ k, F k ↔ F1 k ∨ k = b) ∧ Blk w b [tv]

end Go.Proofs.YtbkoogffnchldaaGreat
/- Stage 17's program: Right, Has, Above: what is asked and told of a list. -/
namespace Go.Proofs.YtbkoogffnchldaaGreat
open Go.RowKit

/-- one box -/
def BoJ (b : Nat) (s : Value) (F : Nat → Prop) (w : World) : Prop := Blk w b [s] ∧ ∀ k, F k ↔ k = b
theorem bo_keep {σ : Type} (b : Nat) (v : σ → Value) : KeepJ fun (s : σ) F w => BoJ b (v s) F w where
  lt := by
    rintro s F w ⟨h1, h2⟩ k hk
    rw [(h2 k).1 hk]
    exact h1.lt
  out := by
    rintro s F w w' ⟨h1, h2⟩ _ he
    exact ⟨h1.same (he b ((h2 b).2 rfl)), h2⟩

set_option maxHeartbeats 1000000 in
theorem iRight1_any (b : Nat) (s x : Int) (F : Nat → Prop) (w : World) (h : BoJ b (.int .i64 s) F w) :
    Calls Tryz.prog 64 #[.int .i64 x, .pointer (some ⟨b, 0, none⟩)] w fun e w' => e = .returned (.bool (rgt s x).2) ∧ ∃ F', BoJ b (.int .i64 (rgt s x).1) F' w' ∧ Mv F F' w w' := by
  obtain ⟨h1, h2⟩ := h
  have HS : Hid (∀ v, Blk (w.setCell ⟨b, 0, none⟩ v) b [v]) := Lib.hid fun v => h1.set 0 v
  have H2 := Lib.hid h2
  have c0 := h1.cell 0 rfl
  have z0 := h1.free 0 rfl
  clear h1 h2
  unfold rgt
  go_enter Tryz.func64, Tryz.ntmps64
  go_wp2
  go_ret
  exact ⟨rfl, F, ⟨HS.out _, H2.out⟩, (Only.refl _ _).set _ _ ((H2.out b).2 rfl), fun k hk => .inl hk⟩

set_option maxHeartbeats 1000000 in
theorem iHas1_any (b : Nat) (n x : Int) (w : World) (h : Blk w b [.int .i64 n]) :
    Calls Tryz.prog 76 #[.int .i64 x, .pointer (some ⟨b, 0, none⟩)] w fun e w' => e = .returned (.bool (x == n)) ∧ w' = w := by
  have c0 := h.cell 0 rfl
  clear h
  go_enter Tryz.func76, Tryz.ntmps76
  go_wp2
  go_ret
  exact ⟨rfl, rfl⟩

set_option maxHeartbeats 1000000 in
theorem iHas_any (va : Value) (l : List Int) (n : Int) (w : World) (ha : IntsAt w va l) (hl : l.length ≤ 1000000) :
    Calls Tryz.prog 59 #[va, .int .i64 n] w fun e w' => e = .returned (.bool (inL l n)) ∧ Below w.heap.size w w' := by
  have hmf : ∀ (fn : Fn) (first cap : Array Value) (w : World), (Instr.makeFunc fn first cap).run Tryz.prog w = .ok (.func fn first cap) w := fun _ _ _ _ => rfl
  have hal := (Below.refl w.heap.size w).alloc (Nat.le_refl _) (.cells #[.int .i64 n] 3)
  have hX := Blk.new w [.int .i64 n] 3
  have hS := iSome_any (J := fun (_ : Unit) F w' => BoJ w.heap.size (.int .i64 n) F w') (fun _ x => ((), x == n)) 76 (.pointer (some ⟨w.heap.size, 0, none⟩)) (fun _ _ => by kernel_rfl) va l _ (ha.below hal) hl ()
    (fun k => k = w.heap.size) (fun h0 k hk hf => by have := ha.rows.lt h0 k hk; omega) ⟨hX, fun k => Iff.rfl⟩ (fun _ _ => True) trivial (fun _ _ _ _ => trivial)
    (fun s F w' x k hx _ _ hj ho => (iHas1_any _ n x w' hj.1).mono (by
      rintro e w2 ⟨rfl, rfl⟩
      exact ⟨rfl, F, hj, Mv.refl _ _⟩))
  rw [show (fun (_ : Unit) (x : Int) => ((), x == n)) = (fun (_ : Unit) x => ((), (fun m => m == n) x)) from rfl, runS_any (fun m => m == n) l, any_in] at hS
  have HS := Lib.hid hS
  have HAL := Lib.hid hal
  clear hal hX hS ha
  go_enter Tryz.func59, Tryz.ntmps59
  go_wp2_with (go_at_call 63; (with_reducible refine HS.out.mono ?_); rintro e w1 ⟨rfl, F', h1, hm⟩; have HM := Lib.hid hm; clear h1 hm)
  go_ret
  exact ⟨rfl, HAL.out.trans (HM.out.only.below (fun k hk => by omega) HAL.out.size)⟩

/-- the list without its first number, as the model cuts it -/
theorem from17 (a : Option Addr) (n c : Nat) (hk : 1 ≤ n) (hn : n ≤ c) : ∃ a4 c4, (∀ w', (Instr.sliceAt 27 (.slice a n c) (some (.int .i64 1)) none none).run Tryz.prog w' = .ok (.slice a4 (n - 1) c4) w') ∧
    (∀ (w' : World) (l : List Int), l.length = n → RowsAt w' 1 csI (.slice a n c) l → RowsAt w' 1 csI (.slice a4 (n - 1) c4) (l.drop 1)) ∧ ∀ k, (Value.slice a4 (n - 1) c4).ownBlock = some k → (Value.slice a n c).ownBlock = some k := by
  have h1 : (1 : Int) ≤ (n : Int) := by omega
  by_cases hck : c = 1
  · have hc0 : n = 1 := by omega
    refine ⟨a, 0, fun w' => ?_, fun w' l hl h => ?_, fun k h => by cases a <;> simp [Value.ownBlock] at h ⊢; exact h⟩
    · simp [go_sem, hck, hc0, sliced]
    · have := restAt13 h 1 (by omega) a (fun h => by omega)
      rwa [hck, Nat.sub_self] at this
  · refine ⟨a.map (fun x => x.add 1), c - 1, fun w' => ?_, fun w' l hl h => ?_, fun k h => ?_⟩
    · simp [go_sem, sliced, h1]
      exact fun h => absurd h hck
    · exact restAt13 h 1 (by omega) _ (fun _ g o e => by subst e; simp [Addr.add])
    · cases a with
      | none => simp [Value.ownBlock] at h
      | some a => simpa [Value.ownBlock, Addr.add] using h

set_option maxHeartbeats 1000000 in
theorem iRight_any (va : Value) (l : List Int) (w : World) (ha : IntsAt w va l) (hl : l.length ≤ 1000000) :
    Calls Tryz.prog 32 #[va] w fun e w' => e = .returned (.bool (rightB l)) ∧ Below w.heap.size w w' := by
  have hmf : ∀ (fn : Fn) (first cap : Array Value) (w : World), (Instr.makeFunc fn first cap).run Tryz.prog w = .ok (.func fn first cap) w := fun _ _ _ _ => rfl
  cases l with
  | nil =>
    obtain ⟨a, c, rfl⟩ := ha.form
    have e : rightB [] = true := by decide
    rw [e]
    clear ha
    go_enter Tryz.func32, Tryz.ntmps32
    go_wp2
    go_ret
    exact ⟨rfl, Below.refl _ _⟩
  | cons x t =>
    obtain ⟨g, o, c, e, hlc, hg, p0⟩ := ha.spot 0 (by simp)
    subst e
    have hal := (Below.refl w.heap.size w).alloc (Nat.le_refl _) (.cells #[.int .i64 x] 3)
    have hX := Blk.new w [.int .i64 x] 3
    obtain ⟨a4, c4, hsl, hrows, how⟩ := from17 (some ⟨g, o, none⟩) (x :: t).length c (by simp) hlc
    have hr := (hrows _ (x :: t) rfl (ha.below hal).rows).ints
    have hS := iSome_any (J := fun (s : Int) F w' => BoJ w.heap.size (.int .i64 s) F w') rgt 64 (.pointer (some ⟨w.heap.size, 0, none⟩)) (fun _ _ => by kernel_rfl) _ t _ hr (by simp at hl; omega) x
      (fun k => k = w.heap.size) (fun h0 k hk hf => by have := ha.rows.lt (by simp) k (how k hk); omega) ⟨hX, fun k => Iff.rfl⟩ (fun _ _ => True) trivial (fun _ _ _ _ => trivial)
      (fun s F w' y k hx _ _ hj ho => iRight1_any _ s y F w' hj)
    rw [runS_right, List.length_cons, Nat.add_sub_cancel] at hS
    rw [List.length_cons, Nat.add_sub_cancel] at hsl
    have HS := Lib.hid hS
    have HAL := Lib.hid hal
    generalize rightB (x :: t) = r at *
    replace p0 : w.cell? ⟨g, o, none⟩ = some (.int .i64 x) := by simpa using p0
    rw [List.length_cons] at *
    clear hal hX hS ha hr hrows how hg
    generalize t.length = n at *
    have n0 : (0 : Int) ≤ (n : Int) := by omega
    have n1 : ¬ ((n : Int) + 1 = 0) := by omega
    go_enter Tryz.func32, Tryz.ntmps32
    go_wp2_with (go_at_call 63; (with_reducible refine HS.out.mono ?_); rintro e w1 ⟨rfl, F', h1, hm⟩; have HM := Lib.hid hm; clear h1 hm)
    go_ret
    exact ⟨by simp, HAL.out.trans (HM.out.only.below (fun k hk => by omega) HAL.out.size)⟩
end Go.Proofs.YtbkoogffnchldaaGreat
/- Stage 17's program: Above; pick. -/
namespace Go.Proofs.YtbkoogffnchldaaGreat
open Go.RowKit

/-- three boxes: n, is there one (ok), the least -/
def AbJ (n : Int) (bn bo bl : Nat) (s : Int × Bool) (F : Nat → Prop) (w : World) : Prop := Blk w bn [.int .i64 n] ∧ Blk w bo [.bool s.2] ∧ Blk w bl [.int .i64 s.1] ∧ ∀ k, F k ↔ k = bn ∨ k = bo ∨ k = bl
theorem ab_keep (n : Int) (bn bo bl : Nat) : KeepJ (AbJ n bn bo bl) where
  lt := by
    rintro s F w ⟨h1, h2, h3, h4⟩ k hk
    rcases (h4 k).1 hk with rfl | rfl | rfl
    · exact h1.lt
    · exact h2.lt
    · exact h3.lt
  out := by
    rintro s F w w' ⟨h1, h2, h3, h4⟩ _ he
    exact ⟨h1.same (he _ ((h4 _).2 (.inl rfl))), h2.same (he _ ((h4 _).2 (.inr (.inl rfl)))), h3.same (he _ ((h4 _).2 (.inr (.inr rfl)))), h4⟩

end Go.Proofs.YtbkoogffnchldaaGreat
/- Stage 17's program: pick: the numbers that are wanted, in a list of one's own. -/
namespace Go.Proofs.YtbkoogffnchldaaGreat
open Go.RowKit

theorem OwnI.same17 {w w' : World} {B : Nat} {v : Value} {l : List Int} (h : OwnI w B v l) (he : ∀ k, v.ownBlock = some k → w'.heap[k]? = w.heap[k]?) : OwnI w' B v l := by
  refine ⟨h.1, ?_⟩
  rcases h.2 with h0 | ⟨g, cap, cur, rfl, hg, hh, rest⟩
  · exact .inl h0
  · exact .inr ⟨g, cap, cur, rfl, hg, (he g rfl).trans hh, rest⟩
theorem OwnI.cells17 {w : World} {B : Nat} {v : Value} {l : List Int} (h : OwnI w B v l) : ∀ k, v.ownBlock = some k → B ≤ k ∧ k < w.heap.size ∧ ∃ cur, w.heap[k]? = some (.cells cur 3) := by
  intro k hk
  rcases h.2 with ⟨rfl, _⟩ | ⟨g, cap, cur, rfl, hg, hh, _⟩
  · simp [Value.ownBlock] at hk
  · simp [Value.ownBlock] at hk
    subst hk
    exact ⟨hg, lt_of_block hh, cur, hh⟩
theorem hset1p {w : World} {b : Nat} {x : Value} {t : TypeId} (h : w.heap[b]? = some (.cells #[x] t)) (x' : Value) : (w.setCell ⟨b, 0, none⟩ x').heap[b]? = some (.cells #[x'] t) := by
  unfold World.setCell
  simp only [Array.getElem?_modify, if_pos, h, Option.map_some]
  rfl
/-- numbers that were picked, in the box q -/
def JP (q : Nat) (t : List Int) (F : Nat → Prop) (w : World) : Prop := ∃ v, w.heap[q]? = some (.cells #[v] 27) ∧ OwnI w 0 v t ∧ ∀ k, F k ↔ k = q ∨ v.ownBlock = some k
theorem jp_keep (q : Nat) : KeepJ (JP q) where
  lt := by
    rintro t F w ⟨v, h1, h2, h3⟩ k hk
    rcases (h3 k).1 hk with rfl | h
    · exact lt_of_block h1
    · exact (OwnI.cells17 h2 k h).2.1
  out := by
    rintro t F w w' ⟨v, h1, h2, h3⟩ _ he
    exact ⟨v, (he q ((h3 q).2 (.inl rfl))).trans h1, OwnI.same17 h2 fun k hk => he k ((h3 k).2 (.inr hk)), h3⟩
theorem jp_ne {q : Nat} {w : World} {v u : Value} {l : List Int} (hr : w.heap[q]? = some (.cells #[u] 27)) (h : OwnI w 0 v l) : v.ownBlock ≠ some q := fun e => by
  obtain ⟨_, _, cur, hc⟩ := OwnI.cells17 h q e
  rw [hr] at hc
  cases hc
/-- beside the box bw of the function that is asked whether a number is wanted -/
def PkJ (bw : Nat) (tv : Value) (bp : Nat) (t : List Int) (F : Nat → Prop) (w : World) : Prop := ∃ Fp, Blk w bw [tv] ∧ ¬ Fp bw ∧ JP bp t Fp w ∧ ∀ k, F k ↔ Fp k ∨ k = bw
theorem pk_keep (bw : Nat) (tv : Value) (bp : Nat) : KeepJ (PkJ bw tv bp) where
  lt := by
    rintro t F w ⟨Fp, h1, h2, h3, h4⟩ k hk
    rcases (h4 k).1 hk with h | rfl
    · exact (jp_keep bp).lt h3 k h
    · exact h1.lt
  out := by
    rintro t F w w' ⟨Fp, h1, h2, h3, h4⟩ hz he
    exact ⟨Fp, h1.same (he bw ((h4 bw).2 (.inr rfl))), h2, (jp_keep bp).out h3 hz fun k hk => he k ((h4 k).2 (.inl hk)), h4⟩

end Go.Proofs.YtbkoogffnchldaaGreat
