/- Texts of this proof, joined: TbA; TbB; TbC. -/
import Derived.Test.YtjmgokjljmmmgaaGreatBun19
/- Stage 20's program: a table in memory: its maps, its locks, its claims. -/
namespace Go.Proofs.YtjmgokjljmmmgaaGreat
open Go.RowKit Go.Maps

/-! ### Claims -/
/-- a claim: its list's block, length and room; how many it holds -/
structure Cl where
  g : Option Nat
  n : Nat
  c : Nat
  held : Int
abbrev Cl.v (x : Cl) : Value := .slice (x.g.map fun b => ⟨b, 0, none⟩) x.n x.c
def clv (x : Cl) : Value := .agg #[x.v, .int .i64 x.held]
def cl0 : Cl := ⟨none, 0, 0, 0⟩
def encC (x : Cl) : DataW Unit := .agg [.lit (.int .i64 (match x.g with | none => -1 | some b => (b : Int))), .lit (.int .i64 (x.n : Int)), .lit (.int .i64 (x.c : Int)), .lit (.int .i64 x.held)]
def readC : Value → Option (DataW Unit × List MemPlace)
  | .agg a => match a.toList with
    | [.slice none n c, .int .i64 h] => some (encC ⟨none, n, c, h⟩, [])
    | [.slice (some ⟨b, 0, none⟩) n c, .int .i64 h] => some (encC ⟨some b, n, c, h⟩, [])
    | _ => none
  | _ => none
theorem encC_inj {x y : Cl} (h : encC x = encC y) : x = y := by
  obtain ⟨a, n, c, d⟩ := x
  obtain ⟨a', n', c', d'⟩ := y
  simp only [encC, DataW.agg.injEq, List.cons.injEq, DataW.lit.injEq, Lit.int.injEq, true_and, and_true] at h
  obtain ⟨h1, h2, h3, h4⟩ := h
  have e2 : n = n' := by omega
  have e3 : c = c' := by omega
  subst e2 e3 h4
  cases a <;> cases a' <;> simp only at h1
  · rfl
  · omega
  · omega
  · have : (_ : Nat) = _ := Int.ofNat.inj h1
    rw [this]
theorem readC_inv (v : Value) (y : DataW Unit × List MemPlace) (h : readC v = some y) : ∃ c, v = clv c ∧ y = (encC c, []) := by
  unfold readC at h
  split at h
  · rename_i a
    split at h
    · rename_i n c d e
      refine ⟨⟨none, n, c, d⟩, ?_, (Option.some.inj h).symm⟩
      show Value.agg a = Value.agg _
      rw [← Array.toArray_toList (xs := a), e]
      rfl
    · rename_i b n c d e
      refine ⟨⟨some b, n, c, d⟩, ?_, (Option.some.inj h).symm⟩
      show Value.agg a = Value.agg _
      rw [← Array.toArray_toList (xs := a), e]
      rfl
    · cases h
  · cases h
noncomputable def EC : Elt Tryz.prog 64 where
  α := Cl
  val := clv
  enc := encC
  ok := fun _ => True
  z := cl0
  R := readC
  out := fun x _ => by
    obtain ⟨a, n, c, d⟩ := x
    cases a <;> rfl
  inv := fun v x ps h => by
    obtain ⟨c, h1, h2⟩ := readC_inv v _ h
    rw [h1, encC_inj (congrArg Prod.fst h2)]
  okz := trivial
  hz := fun w => by kernel_rfl
noncomputable def EL : Elt Tryz.prog 61 := EP 61 fun w => by kernel_rfl
/-- the locks' map, the claims' map -/
def MapL (w : World) (b m : Nat) (g : Int → Option (Option Nat)) : Prop := MapG EL 3 w b m g
def MapC (w : World) (b m : Nat) (g : Int → Option Cl) : Prop := MapG EC 3 w b m g
section
variable {w w' : World} {b m : Nat} {g : Int → Option (Option Nat)} {h : Int → Option Cl}
theorem MapL.look1 (hm : MapL w b m g) {id : Int} (hi : I64 id) : (Instr.lookup 57 (.map (some b)) (.int .i64 id) false).run Tryz.prog w = .ok (ptv ((g id).getD none)) w :=
  MapG.look1 (E := EL) hm Tryz.underlying3 Tryz.underlying57 hi
theorem MapC.look1 (hm : MapC w b m h) {id : Int} (hi : I64 id) : (Instr.lookup 58 (.map (some b)) (.int .i64 id) false).run Tryz.prog w = .ok (clv ((h id).getD cl0)) w :=
  MapG.look1 (E := EC) hm Tryz.underlying3 Tryz.underlying58 hi
theorem MapC.look (hm : MapC w b m h) {id : Int} (hi : I64 id) : (Instr.lookup 58 (.map (some b)) (.int .i64 id) true).run Tryz.prog w = .ok (.tuple #[clv ((h id).getD cl0), .bool (h id).isSome]) w :=
  MapG.look (E := EC) hm Tryz.underlying3 Tryz.underlying58 hi
theorem MapL.put (hm : MapL w b m g) (hn : m ≤ 1000000) {id : Int} (hi : I64 id) (y : Option Nat) :
    ∃ w', (Instr.mapUpdate 57 (.map (some b)) (.int .i64 id) (ptv y)).run Tryz.prog w = .ok () w' ∧ MapL w' b (if (g id).isSome then m else m + 1) (updG g id (some y)) ∧ w.grownBy w' (some b) :=
  MapG.stored (E := EL) hm Tryz.underlying3 Tryz.underlying57 (by unfold maxLen; omega) hi y trivial
theorem MapC.put (hm : MapC w b m h) (hn : m ≤ 1000000) {id : Int} (hi : I64 id) (y : Cl) :
    ∃ w', (Instr.mapUpdate 58 (.map (some b)) (.int .i64 id) (clv y)).run Tryz.prog w = .ok () w' ∧ MapC w' b (if (h id).isSome then m else m + 1) (updG h id (some y)) ∧ w.grownBy w' (some b) :=
  MapG.stored (E := EC) hm Tryz.underlying3 Tryz.underlying58 (by unfold maxLen; omega) hi y trivial
end

/-! ### The table -/
/-- what its maps tell -/
def lkG (T : Tb) (pt : Int → Nat) : Int → Option (Option Nat) := fun id => if id ∈ T.ids then some (some (pt id)) else none
def clG (T : Tb) (cl : Int → Cl) : Int → Option Cl := fun t => if t ∈ T.toks then some (cl t) else none
structure TbR (b ml mc : Nat) (pt : Int → Nat) (Gf : Int → Nat → Prop) (cl : Int → Cl) (F : Nat → Prop) (w : World) (T : Tb) : Prop where
  blk : Blk w b [.map (some ml), .map (some mc)]
  lm : MapL w ml T.ids.length (lkG T pt)
  cm : MapC w mc T.toks.length (clG T cl)
  lk : ∀ id ∈ T.ids, LkAt (Gf id) w (ptr18 (pt id)) ⟨id, T.hd id, T.wt id⟩
  ch : ∀ t ∈ T.toks, (cl t).held = (T.got t : Int) ∧ (cl t).n = (T.want t).length ∧ IntsAt w (cl t).v (T.want t)
  cf : ∀ t ∈ T.toks, 0 < (T.want t).length → ∀ k, (cl t).v.ownBlock = some k → F k ∧ k ≠ b ∧ k ≠ ml ∧ k ≠ mc ∧ ∀ id ∈ T.ids, ¬ Gf id k
  ap : ∀ id ∈ T.ids, ¬ Gf id b ∧ ¬ Gf id ml ∧ ¬ Gf id mc
  di : ∀ i ∈ T.ids, ∀ j ∈ T.ids, i ≠ j → ∀ k, Gf i k → ¬ Gf j k
  ne : ml ≠ mc
  fb : F b
  fl : F ml
  fc : F mc
  fg : ∀ id ∈ T.ids, ∀ k, Gf id k → F k
  lt : ∀ k, F k → k < w.heap.size
section
variable {b ml mc : Nat} {pt : Int → Nat} {Gf : Int → Nat → Prop} {cl : Int → Cl} {F : Nat → Prop} {w w' : World} {T : Tb}
theorem TbR.same (h : TbR b ml mc pt Gf cl F w T) (hz : w.heap.size ≤ w'.heap.size) (he : ∀ k, F k → w'.heap[k]? = w.heap[k]?) : TbR b ml mc pt Gf cl F w' T where
  blk := h.blk.same (he b h.fb)
  lm := MapG.same h.lm (he ml h.fl)
  cm := MapG.same h.cm (he mc h.fc)
  lk id hi := (h.lk id hi).same hz fun k hk => he k (h.fg id hi k hk)
  ch t ht := ⟨(h.ch t ht).1, (h.ch t ht).2.1, (h.ch t ht).2.2.rows.same hz (fun h0 k hk => he k (h.cf t ht h0 k hk).1) |> RowsAt.ints⟩
  cf := h.cf
  ap := h.ap
  di := h.di
  ne := h.ne
  fb := h.fb
  fl := h.fl
  fc := h.fc
  fg := h.fg
  lt k hk := Nat.lt_of_lt_of_le (h.lt k hk) hz
theorem TbR.kept (h : TbR b ml mc pt Gf cl F w T) (hb : Below w.heap.size w w') : TbR b ml mc pt Gf cl F w' T := h.same hb.size fun k hk => hb.block k (h.lt k hk)
theorem TbR.blt (h : TbR b ml mc pt Gf cl F w T) : b < w.heap.size := h.lt b h.fb
theorem TbR.bne (h : TbR b ml mc pt Gf cl F w T) : ml ≠ b ∧ mc ≠ b := ⟨MapG.ne_cell h.lm (a := ⟨b, 0, none⟩) (h.blk.cell 0 rfl), MapG.ne_cell h.cm (a := ⟨b, 0, none⟩) (h.blk.cell 0 rfl)⟩
/-- one lock has gone on -/
theorem TbR.lock (h : TbR b ml mc pt Gf cl F w T) {id : Int} (hi : id ∈ T.ids) {G' : Nat → Prop} {hd : Int} {L : List Int} (hl : LkAt G' w' (ptr18 (pt id)) ⟨id, hd, L⟩) (hm : Mv (Gf id) G' w w') :
    TbR b ml mc pt (upF Gf id G') cl (fun k => F k ∨ G' k) w' { T with hd := upF T.hd id hd, wt := upF T.wt id L } ∧ Mv F (fun k => F k ∨ G' k) w w' := by
  have ho := hm.only
  have hz := ho.size
  have hn : ∀ k, k < w.heap.size → ¬ Gf id k → w'.heap[k]? = w.heap[k]? := fun k hk hg => ho.block k hk hg
  have hoff : ∀ k, k < w.heap.size → ¬ Gf id k → ¬ G' k := fun k hk hg => hm.off hk hg
  obtain ⟨a1, a2, a3⟩ := h.ap id hi
  have l1 := h.lt b h.fb
  have l2 := h.lt ml h.fl
  have l3 := h.lt mc h.fc
  refine ⟨{ blk := h.blk.same (hn b l1 a1), lm := MapG.same h.lm (hn ml l2 a2), cm := MapG.same h.cm (hn mc l3 a3), lk := fun i hi2 => ?_, ch := fun t ht => ⟨(h.ch t ht).1, (h.ch t ht).2.1, RowsAt.ints ((h.ch t ht).2.2.rows.same hz fun h0 k hk => ?_)⟩, cf := fun t ht h0 k hk => ?_, ap := fun i hi2 => ?_, di := fun i hi2 j hj hne k => ?_, ne := h.ne, fb := .inl h.fb, fl := .inl h.fl, fc := .inl h.fc, fg := fun i hi2 k hk => ?_, lt := fun k hk => ?_ }, ho.mono (fun k hk => h.fg id hi k hk), fun k hk => ?_⟩
  · show LkAt (upF Gf id G' i) w' (ptr18 (pt i)) ⟨i, upF T.hd id hd i, upF T.wt id L i⟩
    by_cases e : i = id
    · subst e
      rw [upF_same, upF_same, upF_same]
      exact hl
    · rw [upF_ne _ _ e, upF_ne _ _ e, upF_ne _ _ e]
      exact (h.lk i hi2).same hz fun k hk => hn k ((h.lk i hi2).lt k hk) (h.di i hi2 id hi e k hk)
  · obtain ⟨c1, _, _, _, c5⟩ := h.cf t ht h0 k hk
    exact hn k (h.lt k c1) (c5 id hi)
  · obtain ⟨c1, c2, c3, c4, c5⟩ := h.cf t ht h0 k hk
    refine ⟨.inl c1, c2, c3, c4, fun i hi2 => ?_⟩
    by_cases e : i = id
    · subst e; rw [upF_same]; exact hoff k (h.lt k c1) (c5 i hi)
    · rw [upF_ne _ _ e]; exact c5 i hi2
  · by_cases e : i = id
    · subst e; rw [upF_same]; exact ⟨hoff b l1 a1, hoff ml l2 a2, hoff mc l3 a3⟩
    · rw [upF_ne _ _ e]; exact h.ap i hi2
  · by_cases e : i = id
    · subst e
      rw [upF_same, upF_ne _ _ (fun e => hne e.symm)]
      intro hk hj2
      have h1 := (h.lk j hj).lt k hj2
      exact hoff k h1 (fun hg => h.di i hi2 j hj hne k hg hj2) hk
    · rw [upF_ne _ _ e]
      by_cases e2 : j = id
      · subst e2
        rw [upF_same]
        intro hk
        exact hoff k ((h.lk i hi2).lt k hk) (fun hg => h.di i hi2 j hj hne k hk hg)
      · rw [upF_ne _ _ e2]
        exact h.di i hi2 j hj hne k
  · by_cases e : i = id
    · subst e; rw [upF_same] at hk; exact .inr hk
    · rw [upF_ne _ _ e] at hk; exact .inl (h.fg i hi2 k hk)
  · rcases hk with hk | hk
    · exact Nat.lt_of_lt_of_le (h.lt k hk) hz
    · exact hl.lt k hk
  · rcases hk with hk | hk
    · exact .inl hk
    · exact (hm.sub k hk).imp (h.fg id hi k) fun h => h
/-- a claim is laid, or laid anew -/
theorem TbR.claim (h : TbR b ml mc pt Gf cl F w T) {t : Int} {c : Cl} {T' : Tb} {X : Nat → Prop} (h1 : T'.ids = T.ids) (h2 : T'.hd = T.hd) (h3 : T'.wt = T.wt) (h4 : ∀ x, x ∈ T'.toks ↔ x = t ∨ x ∈ T.toks) (h5 : ∀ x, x ≠ t → T'.got x = T.got x ∧ T'.want x = T.want x)
    (hc : c.held = (T'.got t : Int) ∧ c.n = (T'.want t).length ∧ IntsAt w c.v (T'.want t)) (hf : 0 < (T'.want t).length → ∀ k, c.v.ownBlock = some k → (F k ∨ X k) ∧ k ≠ b ∧ k ≠ ml ∧ k ≠ mc ∧ ∀ id ∈ T.ids, ¬ Gf id k) (hX : ∀ k, X k → k < w.heap.size) (hg : w.grownBy w' (some mc)) (hm : MapC w' mc T'.toks.length (updG (clG T cl) t (some c))) :
    TbR b ml mc pt Gf (upF cl t c) (fun k => F k ∨ X k) w' T' := by
  have hz := hg.size
  obtain ⟨n1, n2⟩ := h.bne
  have hn : ∀ k, k < w.heap.size → k ≠ mc → w'.heap[k]? = w.heap[k]? := fun k hk hne => hg.block k hk fun e => hne (Option.some.inj e)
  have l1 := h.lt b h.fb
  have l2 := h.lt ml h.fl
  refine { blk := h.blk.same (hn b l1 (fun e => n2 e.symm)), lm := ?_, cm := ?_, lk := fun id hi => ?_, ch := fun x hx => ?_, cf := fun x hx => ?_, ap := fun id hi => h.ap id (h1 ▸ hi), di := fun i hi j hj => h.di i (h1 ▸ hi) j (h1 ▸ hj), ne := h.ne, fb := .inl h.fb, fl := .inl h.fl, fc := .inl h.fc, fg := fun id hi k hk => .inl (h.fg id (h1 ▸ hi) k hk), lt := fun k hk => hk.elim (fun hk => Nat.lt_of_lt_of_le (h.lt k hk) hz) fun hk => Nat.lt_of_lt_of_le (hX k hk) hz }
  · have e : lkG T' pt = lkG T pt := by unfold lkG; rw [h1]
    rw [e, h1]
    exact MapG.same h.lm (hn ml l2 h.ne)
  · have e : clG T' (upF cl t c) = updG (clG T cl) t (some c) := by
      funext x
      show (if x ∈ T'.toks then some (upF cl t c x) else none) = (if x = t then some c else (if x ∈ T.toks then some (cl x) else none))
      by_cases e : x = t
      · rw [if_pos ((h4 x).2 (.inl e)), if_pos e, e, upF_same]
      · rw [if_neg e]
        by_cases hx : x ∈ T.toks
        · rw [if_pos ((h4 x).2 (.inr hx)), if_pos hx, upF_ne _ _ e]
        · rw [if_neg (fun h => ((h4 x).1 h).elim e hx), if_neg hx]
    rw [e]
    exact hm
  · rw [h2, h3]
    have hi := h1 ▸ hi
    exact (h.lk id hi).same hz fun k hk => hn k ((h.lk id hi).lt k hk) fun e => (h.ap id hi).2.2 (e ▸ hk)
  · by_cases e : x = t
    · subst e
      rw [upF_same]
      refine ⟨hc.1, hc.2.1, RowsAt.ints (hc.2.2.rows.same hz fun h0 k hk => ?_)⟩
      obtain ⟨c1, _, _, c4, _⟩ := hf h0 k hk
      exact hn k (c1.elim (h.lt k) (hX k)) c4
    · rw [upF_ne _ _ e, (h5 x e).1, (h5 x e).2]
      have hx := ((h4 x).1 hx).resolve_left e
      refine ⟨(h.ch x hx).1, (h.ch x hx).2.1, RowsAt.ints ((h.ch x hx).2.2.rows.same hz fun h0 k hk => ?_)⟩
      obtain ⟨c1, _, _, c4, _⟩ := h.cf x hx h0 k hk
      exact hn k (h.lt k c1) c4
  · rw [h1]
    by_cases e : x = t
    · subst e
      rw [upF_same]
      exact hf
    · rw [upF_ne _ _ e, (h5 x e).2]
      have hx := ((h4 x).1 hx).resolve_left e
      exact fun h0 k hk => by
        obtain ⟨c1, c2⟩ := h.cf x hx h0 k hk
        exact ⟨.inl c1, c2⟩
/-- a claim is deleted -/
theorem TbR.drop (h : TbR b ml mc pt Gf cl F w T) {t : Int} {T' : Tb} (h1 : T'.ids = T.ids) (h2 : T'.hd = T.hd) (h3 : T'.wt = T.wt) (h4 : T'.toks = T.toks.filter fun x => decide (x ≠ t)) (h5 : T'.got = T.got) (h6 : T'.want = T.want)
    (hg : w.grownBy w' (some mc)) (hm : MapC w' mc T'.toks.length (updG (clG T cl) t none)) : TbR b ml mc pt Gf cl F w' T' := by
  have hz := hg.size
  obtain ⟨n1, n2⟩ := h.bne
  have hn : ∀ k, k < w.heap.size → k ≠ mc → w'.heap[k]? = w.heap[k]? := fun k hk hne => hg.block k hk fun e => hne (Option.some.inj e)
  have hs : ∀ x ∈ T'.toks, x ∈ T.toks ∧ x ≠ t := fun x hx => by rw [h4] at hx; simpa using hx
  refine { blk := h.blk.same (hn b (h.lt b h.fb) (fun e => n2 e.symm)), lm := ?_, cm := ?_, lk := fun id hi => ?_, ch := fun x hx => ?_, cf := fun x hx => ?_, ap := fun id hi => h.ap id (h1 ▸ hi), di := fun i hi j hj => h.di i (h1 ▸ hi) j (h1 ▸ hj), ne := h.ne, fb := h.fb, fl := h.fl, fc := h.fc, fg := fun id hi k hk => h.fg id (h1 ▸ hi) k hk, lt := fun k hk => Nat.lt_of_lt_of_le (h.lt k hk) hz }
  · have e : lkG T' pt = lkG T pt := by unfold lkG; rw [h1]
    rw [e, h1]
    exact MapG.same h.lm (hn ml (h.lt ml h.fl) h.ne)
  · have e : clG T' cl = updG (clG T cl) t none := by
      funext x
      show (if x ∈ T'.toks then some (cl x) else none) = (if x = t then none else (if x ∈ T.toks then some (cl x) else none))
      by_cases e : x = t
      · rw [if_pos e, if_neg (fun h => (hs x h).2 e)]
      · rw [if_neg e]
        by_cases hx : x ∈ T.toks
        · rw [if_pos (by rw [h4]; simp [hx, e]), if_pos hx]
        · rw [if_neg (fun h => hx (hs x h).1), if_neg hx]
    rw [e]
    exact hm
  · rw [h2, h3]
    have hi := h1 ▸ hi
    exact (h.lk id hi).same hz fun k hk => hn k ((h.lk id hi).lt k hk) fun e => (h.ap id hi).2.2 (e ▸ hk)
  · have hx := (hs x hx).1
    rw [h5, h6]
    refine ⟨(h.ch x hx).1, (h.ch x hx).2.1, RowsAt.ints ((h.ch x hx).2.2.rows.same hz fun h0 k hk => ?_)⟩
    obtain ⟨c1, _, _, c4, _⟩ := h.cf x hx h0 k hk
    exact hn k (h.lt k c1) c4
  · rw [h6, h1]
    exact h.cf x (hs x hx).1
end

/-- a table -/
def TbAt (F : Nat → Prop) (w : World) (v : Value) (T : Tb) : Prop := T.Ok ∧ ∃ b ml mc pt Gf cl, v = ptr18 b ∧ TbR b ml mc pt Gf cl F w T
theorem TbAt.same {F : Nat → Prop} {w w' : World} {v : Value} {T : Tb} (h : TbAt F w v T) (hz : w.heap.size ≤ w'.heap.size) (he : ∀ k, F k → w'.heap[k]? = w.heap[k]?) : TbAt F w' v T := by
  obtain ⟨h0, b, ml, mc, pt, Gf, cl, rfl, h1⟩ := h
  exact ⟨h0, b, ml, mc, pt, Gf, cl, rfl, h1.same hz he⟩
theorem TbAt.lt {F : Nat → Prop} {w : World} {v : Value} {T : Tb} (h : TbAt F w v T) : ∀ k, F k → k < w.heap.size := by
  obtain ⟨h0, b, ml, mc, pt, Gf, cl, rfl, h1⟩ := h
  exact h1.lt
theorem OkX.ids64 {T : Tb} {x : Option Int} (h : OkX T x) {id : Int} (hi : id ∈ T.ids) : I64 id := by
  have := may_pos h.may id hi
  unfold I64
  omega
theorem OkX.tok64 {T : Tb} {x : Option Int} (h : OkX T x) {t : Int} (ht : t ∈ T.toks) : I64 t := (h.pos t ht).2
theorem lkG_at {T : Tb} (pt : Int → Nat) {id : Int} (hi : id ∈ T.ids) : ptv ((lkG T pt id).getD none) = ptr18 (pt id) := by
  unfold lkG
  rw [if_pos hi]
  rfl
theorem clG_at {T : Tb} (cl : Int → Cl) {t : Int} (ht : t ∈ T.toks) : (clG T cl t).getD cl0 = cl t ∧ (clG T cl t).isSome = true := by
  unfold clG
  rw [if_pos ht]
  exact ⟨rfl, rfl⟩
theorem clG_no {T : Tb} (cl : Int → Cl) {t : Int} (ht : t ∉ T.toks) : (clG T cl t).getD cl0 = cl0 ∧ (clG T cl t).isSome = false := by
  unfold clG
  rw [if_neg ht]
  exact ⟨rfl, rfl⟩
end Go.Proofs.YtjmgokjljmmmgaaGreat
/- Stage 20's program: claims; find, Got; the aisles, and the tokens of whose claims something is so. -/
namespace Go.Proofs.YtjmgokjljmmmgaaGreat
open Go.RowKit Go.Maps

set_option maxHeartbeats 1000000 in
theorem tIsFull_any (x : Cl) (w : World) : Calls Tryz.prog 36 #[clv x] w fun e w' => e = .returned (.bool (decide (x.held = (x.n : Int)))) ∧ Below w.heap.size w w' := by
  obtain ⟨g, n, c, d⟩ := x
  show Calls Tryz.prog _ #[.agg #[.slice (g.map fun b => ⟨b, 0, none⟩) n c, .int .i64 d]] w _
  have HB := Lib.hid ((Below.refl w.heap.size w).alloc (Nat.le_refl _) (.cells #[.slice (g.map fun b => ⟨b, 0, none⟩) n c, .int .i64 d] 64))
  generalize g.map (fun b => (⟨b, 0, none⟩ : Addr)) = a at *
  by_cases e : d = (n : Int)
  · have e1 : (d == (n : Int)) = true := by simpa using e
    rw [show decide ((⟨g, n, c, d⟩ : Cl).held = ((⟨g, n, c, d⟩ : Cl).n : Int)) = true from decide_eq_true e]
    clear e
    go_enter Tryz.func36, Tryz.ntmps36
    go_wp2
    go_ret
    exact ⟨rfl, HB.out⟩
  · have e1 : (d == (n : Int)) = false := beq_noI e
    rw [show decide ((⟨g, n, c, d⟩ : Cl).held = ((⟨g, n, c, d⟩ : Cl).n : Int)) = false from decide_eq_false e]
    clear e
    go_enter Tryz.func36, Tryz.ntmps36
    go_wp2
    go_ret
    exact ⟨rfl, HB.out⟩
set_option maxHeartbeats 1000000 in
theorem tWaits_any (x : Cl) (w : World) : Calls Tryz.prog 37 #[clv x] w fun e w' => e = .returned (.bool (!decide (x.held = (x.n : Int)))) ∧ Below w.heap.size w w' := by
  have hb := (Below.refl w.heap.size w).alloc (Nat.le_refl _) (.cells #[x.v, .int .i64 x.held] 64)
  have HF := Lib.hid (tIsFull_any x (w.alloc (.cells #[x.v, .int .i64 x.held] 64)))
  have HB := Lib.hid hb
  obtain ⟨r, hr⟩ : ∃ r, decide (x.held = (x.n : Int)) = r := ⟨_, rfl⟩
  rw [hr] at HF ⊢
  obtain ⟨g, n, c, d⟩ := x
  have HF := Lib.hid (show Calls Tryz.prog 36 #[.agg #[.slice (g.map fun b => ⟨b, 0, none⟩) n c, .int .i64 d]] _ _ from HF.out)
  show Calls Tryz.prog _ #[.agg #[.slice (g.map fun b => ⟨b, 0, none⟩) n c, .int .i64 d]] w _
  dsimp only [Cl.v] at HF HB
  generalize g.map (fun b => (⟨b, 0, none⟩ : Addr)) = a at *
  clear hb hr
  go_enter Tryz.func37, Tryz.ntmps37
  go_wp2_with (go_at_call 36; (with_reducible refine HF.out.mono ?_); rintro e w1 ⟨rfl, b1⟩; have HB1 := Lib.hid (HB.out.trans (b1.mono HB.out.size)); clear b1)
  go_ret
  exact ⟨rfl, HB1.out⟩

section
variable {b ml mc : Nat} {pt : Int → Nat} {Gf : Int → Nat → Prop} {cl : Int → Cl} {F : Nat → Prop} {w : World} {T : Tb}
set_option maxHeartbeats 4000000 in
set_option maxRecDepth 100000 in
theorem tFind_any (h : TbR b ml mc pt Gf cl F w T) (t : Int) (ht : I64 t) : Calls Tryz.prog 28 #[ptr18 b, .int .i64 t] w fun e w' => e = .returned (.tuple #[clv ((clG T cl t).getD cl0), .bool (clG T cl t).isSome]) ∧ Below w.heap.size w w' := by
  obtain ⟨x, hx⟩ : ∃ x, (clG T cl t).getD cl0 = x := ⟨_, rfl⟩
  obtain ⟨r, hr⟩ : ∃ r, (clG T cl t).isSome = r := ⟨_, rfl⟩
  have hb := (Below.refl w.heap.size w).alloc (Nat.le_refl _) (.cells #[.slice none 0 0, .int .i64 0] 64)
  have h1 := h.kept hb
  have hlk := MapC.look h1.cm ht
  rw [hx, hr] at hlk
  rw [hx, hr]
  have c1 := h1.blk.cell 1 rfl
  obtain ⟨g, n, c, d⟩ := x
  replace hlk : (Instr.lookup 58 (.map (some mc)) (.int .i64 t) true).run Tryz.prog (w.alloc (.cells #[.slice none 0 0, .int .i64 0] 64)) = .ok (.tuple #[.agg #[.slice (g.map fun b => ⟨b, 0, none⟩) n c, .int .i64 d], .bool r]) (w.alloc (.cells #[.slice none 0 0, .int .i64 0] 64)) := hlk
  show Calls Tryz.prog _ _ w fun e w' => e = .returned (.tuple #[.agg #[.slice (g.map fun b => ⟨b, 0, none⟩) n c, .int .i64 d], .bool r]) ∧ _
  generalize g.map (fun b => (⟨b, 0, none⟩ : Addr)) = a at *
  have HB := Lib.hid (((Below.refl w.heap.size w).alloc (Nat.le_refl _) (.cells #[.slice a n c, .int .i64 d] 64)).alloc (by simp) (.cells #[.slice a n c, .int .i64 d] 64))
  clear hb h1 hx hr h
  go_enter Tryz.func28, Tryz.ntmps28
  go_wp2
  refine bodyPost_ret (v := .tuple #[.agg #[.slice a n c, .int .i64 d], .bool r]) ?_ rfl ⟨rfl, HB.out⟩
  simp [results, Tryz.results28, go_sem]
end
theorem tFind_nil (t : Int) (w : World) : Calls Tryz.prog 28 #[.pointer none, .int .i64 t] w fun e w' => e = .returned (.tuple #[clv cl0, .bool false]) ∧ Below w.heap.size w w' := by
  have hb := (Below.refl w.heap.size w).alloc (Nat.le_refl _) (.cells #[.slice none 0 0, .int .i64 0] 64)
  show Calls Tryz.prog _ _ w fun e w' => e = .returned (.tuple #[.agg #[.slice none 0 0, .int .i64 0], .bool false]) ∧ _
  go_enter Tryz.func28, Tryz.ntmps28
  go_wp2
  refine bodyPost_ret (v := .tuple #[.agg #[.slice none 0 0, .int .i64 0], .bool false]) ?_ rfl ⟨rfl, hb⟩
  simp [results, Tryz.results28, go_sem]

set_option maxHeartbeats 4000000 in
set_option maxRecDepth 100000 in
theorem tGotC_any (v : Value) (t : Int) (x : Cl) (r : Bool) (w : World) (H : Calls Tryz.prog 28 #[v, .int .i64 t] w fun e w' => e = .returned (.tuple #[clv x, .bool r]) ∧ Below w.heap.size w w') :
    Calls Tryz.prog 12 #[v, .int .i64 t] w fun e w' => e = .returned (.tuple #[.int .i64 x.held, .int .i64 (x.n : Int), .bool r]) ∧ Below w.heap.size w w' := by
  obtain ⟨g, n, c, d⟩ := x
  have HF := Lib.hid (show Calls Tryz.prog 28 #[v, .int .i64 t] w fun e w' => e = .returned (.tuple #[.agg #[.slice (g.map fun b => ⟨b, 0, none⟩) n c, .int .i64 d], .bool r]) ∧ Below w.heap.size w w' from H)
  generalize g.map (fun b => (⟨b, 0, none⟩ : Addr)) = a at *
  clear H
  go_enter Tryz.func12, Tryz.ntmps12
  go_upto_region 2 with (go_at_call 28; (with_reducible refine HF.out.mono ?_); rintro e w1 ⟨rfl, b1⟩; have HB1 := Lib.hid b1; clear b1)
  have hX := Blk.new w1 [.slice a n c, .int .i64 d] 64
  have hb := (Below.refl w1.heap.size w1).alloc (Nat.le_refl _) (.cells #[.slice a n c, .int .i64 d] 64)
  have HB2 := Lib.hid (HB1.out.trans (hb.mono HB1.out.size))
  have x0 := hX.cell 0 rfl
  have x1 := hX.cell 1 rfl
  generalize w1.alloc (.cells #[.slice a n c, .int .i64 d] 64) = w2 at *
  clear hX hb
  refine wp_region_calm0 (by kernel_rfl) (by kernel_rfl) fun M => ?_
  have e0 := fun n : In M.w => n.cell (M.cell x0)
  have e1 := fun n : In M.w => n.cell (M.cell x1)
  repeat (go_big_quiet_step (fail))
  refine wpQuiet_nil ?_
  clear e0 e1 M
  intro w3 hb3
  have HB3 := Lib.hid (HB2.out.trans (hb3.mono HB2.out.size))
  clear hb3 x0 x1
  go_wp2
  exact bodyPost_ret (v := .tuple #[.int .i64 d, .int .i64 (n : Int), .bool r]) (by simp [results, Tryz.results12, go_sem]) rfl ⟨rfl, HB3.out⟩

/-! ### The aisles -/
theorem readL_inv (v : Value) (y : DataW Unit × List MemPlace) (h : EL.R v = some y) : ∃ c, v = EL.val c := by
  obtain ⟨c, h1, _⟩ := readP_inv v y h
  exact ⟨c, h1⟩
theorem readC_inv2 (v : Value) (y : DataW Unit × List MemPlace) (h : EC.R v = some y) : ∃ c, v = EC.val c := by
  obtain ⟨c, h1, _⟩ := readC_inv v y h
  exact ⟨c, h1⟩
theorem hso_at {g : FuncId} {p : Cl → Bool} (hso : ∀ (x : Cl) (w : World), Calls Tryz.prog g #[clv x] w fun e w' => e = .returned (.bool (p x)) ∧ Below w.heap.size w w') (x : Cl) (w : World) : Calls Tryz.prog g #[.agg #[x.v, .int .i64 x.held]] w fun e w' => e = .returned (.bool (p x)) ∧ Below w.heap.size w w' := hso x w
set_option maxHeartbeats 1000000 in
theorem iOfN_any (va : Value) (l : List Int) (w : World) (ha : IntsAt w va l) (hl : l.length ≤ 1000000) :
    Calls Tryz.prog 55 #[va] w fun e w' => ∃ v, e = .returned v ∧ IntsAt w' v (setL l) ∧ (∀ k, v.ownBlock = some k → w.heap.size ≤ k) ∧ Below w.heap.size w w' := by
  have CL := Lib.hid (cloneI_any va l w ha hl)
  have HSS := Lib.hid (set_sort l)
  clear ha
  go_enter Tryz.func55, Tryz.ntmps55
  go_upto_region 2 with (go_at_call 26; (with_reducible refine CL.out.mono ?_); rintro e w1 ⟨v1, rfl, ho, hb⟩; have HO1 := Lib.hid ho; have HB1 := Lib.hid hb; clear ho hb)
  have SO := Lib.hid (sortI_any w1 _ v1 l HO1.out hl)
  have HC := Lib.hid (OwnI.cells17 HO1.out)
  clear CL HO1
  go_wp2_with (first
    | (go_at_call 71; (with_reducible refine SO.out.mono ?_); rintro e w3 ⟨rfl, h3, o3, k3⟩; have CO := Lib.hid k3; clear h3 k3 o3)
    | (go_at_call 72; (with_reducible refine CO.out.mono ?_); rintro e w4 ⟨u4, rfl, h4, e4, o4⟩; rw [HSS.out] at h4; have HU := Lib.hid h4; have HO4 := Lib.hid o4; have HE4 := Lib.hid e4; clear h4 e4 o4))
  go_ret
  exact ⟨_, rfl, HU.out, fun k hk => (HC.out k (by rw [← HE4.out]; exact hk)).1, HB1.out.trans (Only.below HO4.out (fun k hk => (HC.out k hk).1) HB1.out.size)⟩
theorem setL_of {l T : List Int} (hr : risL T) (hm : ∀ x, x ∈ l ↔ x ∈ T) : setL l = T := risL.eq (setL_ris l) hr fun x => by rw [setL_mem, hm]
section
variable {b ml mc : Nat} {pt : Int → Nat} {Gf : Int → Nat → Prop} {cl : Int → Cl} {F : Nat → Prop} {w : World} {T : Tb}
set_option maxHeartbeats 8000000 in
set_option maxRecDepth 100000 in
theorem tIds_any (h : TbR b ml mc pt Gf cl F w T) (hok : T.Ok) : Calls Tryz.prog 25 #[ptr18 b] w fun e w' => ∃ v, e = .returned v ∧ IntsAt w' v T.ids ∧ (∀ k, v.ownBlock = some k → w.heap.size ≤ k) ∧ Below w.heap.size w w' := by
  have c0 := h.blk.cell 0 rfl
  have HL := Lib.hid h.lm
  have hml := MapG.lt h.lm
  have HIDS := Lib.hid (show (∀ x, x ∈ T.ids → I64 x) ∧ risL T.ids ∧ T.ids.length ≤ 32 from ⟨fun x hx => hok.ids64 hx, may_ris hok.may, may_len hok.may⟩)
  have HG := Lib.hid (show ∀ id, (lkG T pt id).isSome = true ↔ id ∈ T.ids from fun id => by unfold lkG; split <;> simp [*])
  clear h hok
  go_enter Tryz.func25, Tryz.ntmps25
  go_wp2_with (at_range; refine wpList_rangeG (E := EL) rfl _ _ rfl Tryz.underlying3 Tryz.underlying57 rfl HL.out ?_; intro w1 hrg hg hs; have HR := Lib.hid hrg; have HB1 := Lib.hid ((Below.refl w.heap.size w).grown hg (Nat.le_refl _) (by simp)); have HRT := Lib.hid (show w.heap.size < w1.heap.size by omega); have HMLT := Lib.hid (show ml < w1.heap.size by omega); clear hrg hg hs c0)
  go_frame
  go_loopw [3] (fun v wr => ∃ (S : Int → Prop) (cnt : Nat) (Tk : List Int), RngG EL 3 wr ml w.heap.size T.ids.length (lkG T pt) S cnt ∧ OwnI wr w1.heap.size v Tk ∧ (∀ id, I64 id → (id ∈ Tk ↔ id ∈ T.ids ∧ ¬ S id)) ∧ (∀ id ∈ Tk, I64 id) ∧ Tk.length + cnt ≤ T.ids.length ∧ Below w.heap.size w wr ∧ w1.heap.size ≤ wr.heap.size) (fun _ wr => wr.rangeLeft ml w.heap.size)
  case atStart => exact ⟨_, _, [], HR.out, OwnR.nil _ _ _ _ _, fun id _ => ⟨fun h => (by cases h), fun h => absurd ((HG.out id).2 h.1) h.2⟩, fun id h => (by cases h), by simp, HB1.out, Nat.le_refl _⟩
  case round =>
    clear HR
    obtain ⟨S, cnt, Tk, hrg, ho, hmem, h64, hlen, hB, hz⟩ := hrel
    have HO := Lib.hid ho
    have HMEM := Lib.hid hmem
    have H64 := Lib.hid h64
    have HLEN := Lib.hid hlen
    have HB := Lib.hid hB
    have HZ := Lib.hid hz
    have HRG := Lib.hid hrg
    obtain ⟨av, cv, e⟩ := (OwnI.ints ho).form
    subst e
    clear hrg ho hmem h64 hlen hB hz
    go_wp2_with (at_next; refine wpList_nextG (E := EL) readL_inv rfl _ rfl Tryz.underlying3 rfl HRG.out ?_ ?_)
    · intro hd
      have hset : setL Tk = T.ids := setL_of HIDS.out.2.1 fun x => by
        by_cases hx : I64 x
        · rw [HMEM.out x hx]
          exact ⟨fun h => h.1, fun h => ⟨h, hd x hx⟩⟩
        · exact ⟨fun h => absurd (H64.out x h) hx, fun h => absurd (HIDS.out.1 x h) hx⟩
      have hof := iOfN_any _ Tk wr (OwnI.ints HO.out) (by have := HLEN.out; have := HIDS.out.2.2; omega)
      rw [hset] at hof
      have HOF := Lib.hid hof
      clear hd hset hof
      go_wp2_with (go_at_call 55; (with_reducible refine HOF.out.mono ?_); rintro e w5 ⟨v5, rfl, h5, n5, b5⟩; have N5 := Lib.hid n5; have H5 := Lib.hid h5; have HB5 := Lib.hid (HB.out.trans (b5.mono HB.out.size)); clear h5 b5 n5)
      go_ret
      exact ⟨_, rfl, H5.out, fun k hk => Nat.le_trans HB.out.size (N5.out k hk), HB5.out⟩
    · intro id x w2 cnt2 hi hs hg2 hrg2 hlt hgr hsz hen
      have hin : id ∈ T.ids := (HG.out id).1 (by rw [hg2]; rfl)
      have hz1 : w.heap.size < w1.heap.size := HRT.out
      have ho2 : OwnI w2 w1.heap.size (.slice av Tk.length cv) Tk := OwnR.sameB HO.out fun k hk => hgr.block k (HO.out.lt k hk).2 fun e => by have := (HO.out.lt k hk).1; have := Option.some.inj e; omega
      have HO2 := Lib.hid ho2
      have HI := Lib.hid (And.intro hi (And.intro hin hs))
      have HLT := Lib.hid hlt
      have HSZ := Lib.hid hsz
      have HRG2 := Lib.hid hrg2
      have HB2 := Lib.hid (HB.out.grown hgr HB.out.size fun k hk => by have := Option.some.inj hk; omega)
      have HZ2 := Lib.hid (show w1.heap.size ≤ w2.heap.size by have := HZ.out; omega)
      have HNM := Lib.hid (fun h => ((HMEM.out id hi).1 h).2 hs : id ∉ Tk)
      clear hi hs hg2 hrg2 hlt hgr hsz hin ho2
      go_wp2_with (at_builtin; refine app1 HO2.out HZ2.out (by have := HLEN.out; have := HIDS.out.2.2; omega) rfl _ _ rfl rfl rfl ?_; intro v6 w6 o6 b6; have HO6 := Lib.hid o6; have HB6 := Lib.hid b6; clear o6 b6)
      go_roundw
      case rel =>
        refine ⟨_, cnt2, Tk ++ [id], HRG2.out.same (HB6.out.block ml HMLT.out) (HB6.out.block _ HRT.out), HO6.out, fun z hz => ?_, fun z hz => ?_, by have := HLEN.out; have := HLT.out; rw [List.length_append, List.length_singleton]; omega, HB2.out.trans (HB6.out.mono (Nat.le_of_lt HRT.out)), Nat.le_trans HZ2.out HB6.out.size⟩
        · rw [List.mem_append, HMEM.out z hz, List.mem_singleton]
          constructor
          · rintro (⟨h1, h2⟩ | rfl)
            · exact ⟨h1, fun h => h2 h.1⟩
            · exact ⟨HI.out.2.1, fun h => h.2 rfl⟩
          · rintro ⟨h1, h2⟩
            by_cases e : z = id
            · exact .inr e
            · exact .inl ⟨h1, fun h => h2 ⟨h, e⟩⟩
        · rcases List.mem_append.1 hz with hz | hz
          · exact H64.out z hz
          · rw [List.mem_singleton.1 hz]; exact HI.out.1
      case measure =>
        rw [(HRG2.out.same (HB6.out.block ml HMLT.out) (HB6.out.block _ HRT.out)).left, HRG.out.left]
        exact HLT.out

set_option maxHeartbeats 8000000 in
set_option maxRecDepth 100000 in
theorem tThoseW_any (g : FuncId) (eg : ∀ args w, (callFunc g args).run Tryz.prog w = .ok (.enter g args) w) (p : Cl → Bool) (hso : ∀ (x : Cl) (w : World), Calls Tryz.prog g #[clv x] w fun e w' => e = .returned (.bool (p x)) ∧ Below w.heap.size w w') (h : TbR b ml mc pt Gf cl F w T) (hok : (∀ x, x ∈ T.toks → I64 x) ∧ risL T.toks ∧ T.toks.length ≤ 64) :
    Calls Tryz.prog 35 #[ptr18 b, .func (.func g) #[] #[]] w fun e w' => ∃ v, e = .returned v ∧ IntsAt w' v (T.toks.filter fun t => p (cl t)) ∧ (∀ k, v.ownBlock = some k → w.heap.size ≤ k) ∧ Below w.heap.size w w' := by
  have c0 := h.blk.cell 1 rfl
  have HL := Lib.hid h.cm
  have hml := MapG.lt h.cm
  have HSO := Lib.hid hso
  have HIDS := Lib.hid (show (∀ x, x ∈ T.toks → I64 x) ∧ risL T.toks ∧ T.toks.length ≤ 64 from hok)
  have HG := Lib.hid (show ∀ id x, clG T cl id = some x ↔ id ∈ T.toks ∧ x = cl id from fun id x => by
    unfold clG
    split
    · rename_i h
      simp only [Option.some.injEq, h, true_and]
      exact eq_comm
    · rename_i h
      simp [h])
  obtain ⟨R, hR⟩ : ∃ R, T.toks.filter (fun t => p (cl t)) = R := ⟨_, rfl⟩
  rw [hR]
  have HRR := Lib.hid (show risL R ∧ ∀ x, x ∈ R ↔ x ∈ T.toks ∧ p (cl x) = true from by
    rw [← hR]
    exact ⟨hok.2.1.sublist List.filter_sublist, fun x => List.mem_filter⟩)
  clear h hok hR hso
  go_enter Tryz.func35, Tryz.ntmps35
  go_wp2_with (at_range; refine wpList_rangeG (E := EC) rfl _ _ rfl Tryz.underlying3 Tryz.underlying58 rfl HL.out ?_; intro w1 hrg hg hs; have HR := Lib.hid hrg; have HB1 := Lib.hid ((Below.refl w.heap.size w).grown hg (Nat.le_refl _) (by simp)); have HRT := Lib.hid (show w.heap.size < w1.heap.size by omega); have HMLT := Lib.hid (show mc < w1.heap.size by omega); clear hrg hg hs c0)
  go_frame
  go_loopw [5] (fun v wr => ∃ (S : Int → Prop) (cnt : Nat) (Tk : List Int), RngG EC 3 wr mc w.heap.size T.toks.length (clG T cl) S cnt ∧ OwnI wr w1.heap.size v Tk ∧ (∀ id, I64 id → (id ∈ Tk ↔ id ∈ R ∧ ¬ S id)) ∧ (∀ id ∈ Tk, I64 id) ∧ Tk.length + cnt ≤ T.toks.length ∧ Below w.heap.size w wr ∧ w1.heap.size ≤ wr.heap.size) (fun _ wr => wr.rangeLeft mc w.heap.size)
  case atStart =>
    refine ⟨_, _, [], HR.out, OwnR.nil _ _ _ _ _, fun id _ => ⟨fun h => (by cases h), fun h => absurd ?_ h.2⟩, fun id h => (by cases h), by simp, HB1.out, Nat.le_refl _⟩
    rw [(HG.out id (cl id)).2 ⟨((HRR.out.2 id).1 h.1).1, rfl⟩]
    rfl
  case round =>
    clear HR
    obtain ⟨S, cnt, Tk, hrg, ho, hmem, h64, hlen, hB, hz⟩ := hrel
    have HO := Lib.hid ho
    have HMEM := Lib.hid hmem
    have H64 := Lib.hid h64
    have HLEN := Lib.hid hlen
    have HB := Lib.hid hB
    have HZ := Lib.hid hz
    have HRG := Lib.hid hrg
    obtain ⟨av, cv, e⟩ := (OwnI.ints ho).form
    subst e
    clear hrg ho hmem h64 hlen hB hz
    go_wp2_with (at_next; refine wpList_nextG (E := EC) readC_inv2 rfl _ rfl Tryz.underlying3 rfl HRG.out ?_ ?_)
    · intro hd
      have hset : setL Tk = R := setL_of HRR.out.1 fun x => by
        by_cases hx : I64 x
        · rw [HMEM.out x hx]
          exact ⟨fun h => h.1, fun h => ⟨h, hd x hx⟩⟩
        · exact ⟨fun h => absurd (H64.out x h) hx, fun h => absurd (HIDS.out.1 x ((HRR.out.2 x).1 h).1) hx⟩
      have hof := iOfN_any _ Tk wr (OwnI.ints HO.out) (by have := HLEN.out; have := HIDS.out.2.2; omega)
      rw [hset] at hof
      have HOF := Lib.hid hof
      clear hd hset hof
      go_wp2_with (go_at_call 55; (with_reducible refine HOF.out.mono ?_); rintro e w5 ⟨v5, rfl, h5, n5, b5⟩; have H5 := Lib.hid h5; have HN5 := Lib.hid (fun k hk => Nat.le_trans HB.out.size (n5 k hk)); have HB5 := Lib.hid (HB.out.trans (b5.mono HB.out.size)); clear h5 n5 b5)
      go_ret
      exact ⟨_, rfl, H5.out, HN5.out, HB5.out⟩
    · intro id x w2 cnt2 hi hs hg2 hrg2 hlt hgr hsz hen
      obtain ⟨hin, hxc⟩ := (HG.out id x).1 hg2
      have hz1 : w.heap.size < w1.heap.size := HRT.out
      have ho2 : OwnI w2 w1.heap.size (.slice av Tk.length cv) Tk := OwnR.sameB HO.out fun k hk => hgr.block k (HO.out.lt k hk).2 fun e => by have := (HO.out.lt k hk).1; have := Option.some.inj e; omega
      have HI := Lib.hid (And.intro hi (And.intro hin hs))
      have HLT := Lib.hid hlt
      have HRG2 := Lib.hid hrg2
      have HB2 := Lib.hid (HB.out.grown hgr HB.out.size fun k hk => by have := Option.some.inj hk; omega)
      have HZ2 := Lib.hid (show w1.heap.size ≤ w2.heap.size by have := HZ.out; omega)
      have HXC := Lib.hid (show p x = p (cl id) by rw [hxc])
      have hal := (Below.refl w2.heap.size w2).alloc (Nat.le_refl _) (.cells #[x.v, .int .i64 x.held] 64)
      have HS2 := Lib.hid (hso_at HSO.out x (w2.alloc (.cells #[x.v, .int .i64 x.held] 64)))
      have HAL := Lib.hid hal
      have HO2 := Lib.hid (OwnR.kept ho2 hal)
      have HNM := Lib.hid (fun h => ((HMEM.out id hi).1 h).2 hs : id ∉ Tk)
      obtain ⟨r, hr⟩ : ∃ r, p x = r := ⟨_, rfl⟩
      rw [hr] at HS2 HXC
      obtain ⟨xg, xn, xc, xd⟩ := x
      replace hen : (Instr.entry (.pointer (some ⟨w.heap.size, 0, none⟩))).run Tryz.prog w2 = .ok (.tuple #[.int .i64 id, .agg #[.slice (xg.map fun b => ⟨b, 0, none⟩) xn xc, .int .i64 xd]]) w2 := hen
      replace HS2 := Lib.hid (show Calls Tryz.prog g #[.agg #[.slice (xg.map fun b => ⟨b, 0, none⟩) xn xc, .int .i64 xd]] (w2.alloc (.cells #[.slice (xg.map fun b => ⟨b, 0, none⟩) xn xc, .int .i64 xd] 64)) fun e w' => e = .returned (.bool r) ∧ Below (w2.alloc (.cells #[.slice (xg.map fun b => ⟨b, 0, none⟩) xn xc, .int .i64 xd] 64)).heap.size (w2.alloc (.cells #[.slice (xg.map fun b => ⟨b, 0, none⟩) xn xc, .int .i64 xd] 64)) w' from HS2.out)
      dsimp only [Cl.v] at HAL HO2
      generalize xg.map (fun b => (⟨b, 0, none⟩ : Addr)) = xa at *
      clear hi hs hg2 hrg2 hlt hgr hin ho2 hal hr hxc
      cases r with
      | true =>
        go_upto_region 8 with (go_at_fn g; (with_reducible refine HS2.out.mono ?_); rintro e w3 ⟨rfl, b3⟩; have HB3 := Lib.hid (HAL.out.trans (b3.mono HAL.out.size)); have HO3 := Lib.hid (OwnR.kept HO2.out b3); clear b3)
        clear hen
        have HZ3 := Lib.hid (Nat.le_trans HZ2.out HB3.out.size)
        go_wp2_with (at_builtin; refine app1 HO3.out HZ3.out (by have := HLEN.out; have := HIDS.out.2.2; omega) rfl _ _ rfl rfl rfl ?_; intro v6 w6 o6 b6; have HO6 := Lib.hid o6; have HB6 := Lib.hid b6; clear o6 b6)
        have HR6 := Lib.hid ((HRG2.out.kept HB3.out).same (HB6.out.block mc HMLT.out) (HB6.out.block _ HRT.out))
        go_roundw
        case rel =>
          refine ⟨_, cnt2, Tk ++ [id], HR6.out, HO6.out, fun z hz => ?_, fun z hz => ?_, by have := HLEN.out; have := HLT.out; rw [List.length_append, List.length_singleton]; omega, (HB2.out.trans (HB3.out.mono HB2.out.size)).trans (HB6.out.mono (Nat.le_of_lt HRT.out)), Nat.le_trans HZ3.out HB6.out.size⟩
          · rw [List.mem_append, HMEM.out z hz, List.mem_singleton]
            constructor
            · rintro (⟨h1, h2⟩ | rfl)
              · exact ⟨h1, fun h => h2 h.1⟩
              · exact ⟨(HRR.out.2 z).2 ⟨HI.out.2.1, HXC.out.symm⟩, fun h => h.2 rfl⟩
            · rintro ⟨h1, h2⟩
              by_cases e : z = id
              · exact .inr e
              · exact .inl ⟨h1, fun h => h2 ⟨h, e⟩⟩
          · rcases List.mem_append.1 hz with hz | hz
            · exact H64.out z hz
            · rw [List.mem_singleton.1 hz]; exact HI.out.1
        case measure =>
          rw [HR6.out.left, HRG.out.left]
          exact HLT.out
      | false =>
        go_wp2_with (go_at_fn g; (with_reducible refine HS2.out.mono ?_); rintro e w3 ⟨rfl, b3⟩; have HB3 := Lib.hid (HAL.out.trans (b3.mono HAL.out.size)); have HO3 := Lib.hid (OwnR.kept HO2.out b3); clear b3)
        clear hen
        have HZ3 := Lib.hid (Nat.le_trans HZ2.out HB3.out.size)
        have HR6 := Lib.hid (HRG2.out.kept HB3.out)
        go_roundw
        case rel =>
          refine ⟨_, cnt2, Tk, HR6.out, HO3.out, fun z hz => ?_, H64.out, by have := HLEN.out; have := HLT.out; omega, HB2.out.trans (HB3.out.mono HB2.out.size), HZ3.out⟩
          rw [HMEM.out z hz]
          refine ⟨fun h => ⟨h.1, fun h2 => h.2 h2.1⟩, fun h => ⟨h.1, fun h2 => h.2 ⟨h2, fun e => ?_⟩⟩⟩
          have := ((HRR.out.2 z).1 h.1).2
          rw [e, ← HXC.out] at this
          cases this
        case measure =>
          rw [HR6.out.left, HRG.out.left]
          exact HLT.out
theorem OkX.toks3 {x : Option Int} (hok : OkX T x) : (∀ x, x ∈ T.toks → I64 x) ∧ risL T.toks ∧ T.toks.length ≤ 64 := ⟨fun _ hx => hok.tok64 hx, hok.ris, hok.few⟩
theorem tThose_any (g : FuncId) (eg : ∀ args w, (callFunc g args).run Tryz.prog w = .ok (.enter g args) w) (p : Cl → Bool) (hso : ∀ (x : Cl) (w : World), Calls Tryz.prog g #[clv x] w fun e w' => e = .returned (.bool (p x)) ∧ Below w.heap.size w w') (h : TbR b ml mc pt Gf cl F w T) (hok : T.Ok) :
    Calls Tryz.prog 35 #[ptr18 b, .func (.func g) #[] #[]] w fun e w' => ∃ v, e = .returned v ∧ IntsAt w' v (T.toks.filter fun t => p (cl t)) ∧ (∀ k, v.ownBlock = some k → w.heap.size ≤ k) ∧ Below w.heap.size w w' := tThoseW_any g eg p hso h hok.toks3
end
end Go.Proofs.YtjmgokjljmmmgaaGreat
/- Stage 20's program: Full, Tokens; the next ask; all locks, one behind the other. -/
namespace Go.Proofs.YtjmgokjljmmmgaaGreat
open Go.RowKit Go.Maps

section
variable {b ml mc : Nat} {pt : Int → Nat} {Gf : Int → Nat → Prop} {cl : Int → Cl} {F : Nat → Prop} {w : World} {T : Tb}
theorem TbR.isFull (h : TbR b ml mc pt Gf cl F w T) {t : Int} (ht : t ∈ T.toks) : decide ((cl t).held = ((cl t).n : Int)) = T.isFull t := by
  obtain ⟨h1, h2, _⟩ := h.ch t ht
  rw [h1, h2]
  unfold Tb.isFull
  exact decide_eq_decide.2 ⟨fun h => by omega, fun h => by omega⟩
set_option maxHeartbeats 1000000 in
theorem tTokensW_any (h : TbR b ml mc pt Gf cl F w T) (hok : (∀ x, x ∈ T.toks → I64 x) ∧ risL T.toks ∧ T.toks.length ≤ 64) : Calls Tryz.prog 11 #[ptr18 b] w fun e w' => ∃ v, e = .returned v ∧ IntsAt w' v T.toks ∧ Below w.heap.size w w' := by
  have H := tThoseW_any 36 (fun _ _ => by kernel_rfl) (fun x => decide (x.held = (x.n : Int))) tIsFull_any h hok
  have H2 := fun (w' : World) (hb : Below w.heap.size w w') => tThoseW_any 37 (fun _ _ => by kernel_rfl) (fun x => !decide (x.held = (x.n : Int))) tWaits_any (h.kept hb) hok
  obtain ⟨A, hA⟩ : ∃ A, T.toks.filter (fun t => decide ((cl t).held = ((cl t).n : Int))) = A := ⟨_, rfl⟩
  obtain ⟨B, hB⟩ : ∃ B, T.toks.filter (fun t => !decide ((cl t).held = ((cl t).n : Int))) = B := ⟨_, rfl⟩
  rw [hA] at H
  rw [hB] at H2
  have HOR := Lib.hid (show orL A B = T.toks from setL_of hok.2.1 fun x => by
    rw [← hA, ← hB, List.mem_append, List.mem_filter, List.mem_filter]
    cases decide ((cl x).held = ((cl x).n : Int)) <;> simp)
  have HLN := Lib.hid (show A.length ≤ 64 ∧ B.length ≤ 64 from ⟨by rw [← hA]; exact Nat.le_trans (List.length_filter_le _ _) hok.2.2, by rw [← hB]; exact Nat.le_trans (List.length_filter_le _ _) hok.2.2⟩)
  have HT := Lib.hid H
  have HT2 := Lib.hid H2
  clear h hok H H2 hA hB
  go_enter Tryz.func11, Tryz.ntmps11
  go_wp2_with (first
    | (go_at_call 35; (with_reducible refine HT.out.mono ?_); rintro e w1 ⟨v1, rfl, h1, _, b1⟩; have H1 := Lib.hid h1; have HB1 := Lib.hid b1; clear h1 b1)
    | (go_at_call 35; (with_reducible refine (HT2.out _ HB1.out).mono ?_); rintro e w2 ⟨v2, rfl, h2, _, b2⟩; have OR := Lib.hid (iOr_any v1 v2 A B w2 (H1.out.below b2) h2 (by have := HLN.out.1; omega) (by have := HLN.out.2; omega)); rw [HOR.out] at OR; have HB2 := Lib.hid (HB1.out.trans (b2.mono HB1.out.size)); clear h2 b2)
    | (go_at_call 34; (with_reducible refine OR.out.mono ?_); rintro e w3 ⟨v3, rfl, h3, b3⟩; have H3 := Lib.hid h3; have HB3 := Lib.hid (HB2.out.trans (b3.mono HB2.out.size)); clear h3 b3))
  go_ret
  exact ⟨_, rfl, H3.out, HB3.out⟩
theorem tTokens_any (h : TbR b ml mc pt Gf cl F w T) (hok : T.Ok) : Calls Tryz.prog 11 #[ptr18 b] w fun e w' => ∃ v, e = .returned v ∧ IntsAt w' v T.toks ∧ Below w.heap.size w w' := tTokensW_any h hok.toks3
end
set_option maxHeartbeats 1000000 in
theorem tThose_nil (f : Value) (w : World) : Calls Tryz.prog 35 #[.pointer none, f] w fun e w' => e = .returned (.slice none 0 0) ∧ Below w.heap.size w w' := by
  go_enter Tryz.func35, Tryz.ntmps35
  go_wp2
  go_ret
  exact ⟨rfl, Below.refl _ _⟩
set_option maxHeartbeats 1000000 in
theorem tTokens_nil (w : World) : Calls Tryz.prog 11 #[.pointer none] w fun e w' => ∃ v, e = .returned v ∧ IntsAt w' v [] ∧ Below w.heap.size w w' := by
  have HT := Lib.hid tThose_nil
  have HOR := Lib.hid fun w => iOr_any (.slice none 0 0) (.slice none 0 0) [] [] w (IntsAt.nil w) (IntsAt.nil w) (by simp) (by simp)
  have e0 : orL [] [] = [] := rfl
  rw [e0] at HOR
  clear e0
  go_enter Tryz.func11, Tryz.ntmps11
  go_wp2_with (first
    | (go_at_call 35; (with_reducible refine (HT.out (.func (.func 36) #[] #[]) _).mono ?_); rintro e w1 ⟨rfl, b1⟩; have HB1 := Lib.hid b1; clear b1)
    | (go_at_call 35; (with_reducible refine (HT.out (.func (.func 37) #[] #[]) _).mono ?_); rintro e w2 ⟨rfl, b2⟩; have HB2 := Lib.hid (HB1.out.trans (b2.mono HB1.out.size)); clear b2)
    | (go_at_call 34; (with_reducible refine (HOR.out _).mono ?_); rintro e w3 ⟨v3, rfl, h3, b3⟩; have H3 := Lib.hid h3; have HB3 := Lib.hid (HB2.out.trans (b3.mono HB2.out.size)); clear h3 b3))
  go_ret
  exact ⟨_, rfl, H3.out, HB3.out⟩
end Go.Proofs.YtjmgokjljmmmgaaGreat
