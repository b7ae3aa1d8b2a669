/- Texts of this proof, joined: Loose; Clone; HeapRefA; HeapRefB; HeapRefC. -/
import Derived.Test.YthchkhgimnchcaaGreatBun16
import Derived.Deep.DeepCutAuto
/- A region that draws its order, whose calls may hand back values that are told only by a relation that new memory leaves (a slice of the call's own, say), at any place among reads, calls, new blocks; then stores in a forced order. -/
namespace Go.Proofs.YthchkhgimnchcaaGreat
open Go.RowKit

section
variable {P : Program} {ops : Array Oper} {md : Region.Mode} {W : World}

/-- what new memory leaves -/
def KeptF (F : World → Prop) : Prop := ∀ w w', F w → Below w.heap.size w w' → F w'

/-- a call, or an operation that makes new memory, whose value is told by R alone; f: of what form it is -/
def looseUpon (P : Program) (R : Value → World → Prop) (f : Value → Value) (w : World) : Result Next → Prop
  | .ok (.value v) w' => ∃ u, v = f u ∧ R (f u) w' ∧ Below w.heap.size w w'
  | .ok (.enter g args) w1 => w1 = w ∧ Calls P g args w fun e w' => ∃ u, e = .returned (f u) ∧ R (f u) w' ∧ Below w.heap.size w w'
  | _ => False
def looseAt (P : Program) (o : Oper) (a : Act) (W : World) (R : Value → World → Prop) (f : Value → Value) : Prop := (∀ v, KeptF (R v)) ∧ ∀ n : In W, looseUpon P R f n.w ((execOp a.eval o).run P n.w)

/-- of what kind an operation is -/
inductive Kd
  | calm
  | news (o : Obj) (f : Nat → Value)
  | loose (R : Value → World → Prop) (f : Value → Value := fun v => v)
abbrev Gz := Gh × (World → Prop)
def Kd.isCalm : Kd → Bool
  | .calm => true
  | _ => false
def Kd.ok (W : World) : Kd → Nat × Value → Gz → Prop
  | .news _ _, c, G => W.heap.size ≤ c.1 ∧ G.1 c.1 = none
  | _, _, _ => True
def Kd.val : Kd → Nat × Value → Value
  | .news _ f, c => f c.1
  | .loose _ f, c => f c.2
  | _, c => c.2
def Kd.upd : Kd → Nat × Value → Gz → Gz
  | .news o _, c, G => (G.1.set c.1 o, G.2)
  | .loose R f, c, G => (G.1, fun w => G.2 w ∧ R (f c.2) w)
  | .calm, _, G => G
def Kd.pre (P : Program) (o : Oper) (a : Act) (W : World) : Kd → Prop
  | .news ob f => newsAt P o a W (ob, f)
  | .loose R f => looseAt P o a W R f
  | .calm => True
structure HeldZ (W : World) (G : Gz) (w : World) : Prop where
  held : Held W G.1 w
  fact : G.2 w
  kept : KeptF G.2

def zOp (P : Program) (ops : Array Oper) (W : World) (N : Nat → Kd) (j : Nat) (K : Act → Gz → Prop) (a : Act) (G : Gz) : Prop :=
  match ops[j]? with
  | none => K a G
  | some o =>
    if (N j).isCalm then
      if Region.wanted o (yielded ops a.tmps) then ∃ v, calmAt P o a W v ∧ K (a.put o.dst v) G else K (a.put o.dst undef) G
    else Region.wanted o (yielded ops a.tmps) = true ∧ (N j).pre P o a W ∧ ∀ c, (N j).ok W c G → K (a.put o.dst ((N j).val c)) ((N j).upd c G)

variable {N : Nat → Kd}

theorem zOp_mono {j : Nat} {K K' : Act → Gz → Prop} {a : Act} {G : Gz} (h : ∀ a G, K a G → K' a G) (hh : zOp P ops W N j K a G) : zOp P ops W N j K' a G := by
  unfold zOp at *
  cases ho : ops[j]? with
  | none => simp only [ho] at hh; exact h _ _ hh
  | some o =>
    simp only [ho] at hh ⊢
    split
    · rename_i hn
      simp only [hn, if_true] at hh
      split
      · rename_i hw; simp only [hw, if_true] at hh; exact hh.imp fun v hv => ⟨hv.1, h _ _ hv.2⟩
      · rename_i hw; simp only [hw] at hh; exact h _ _ hh
    · rename_i hn
      simp only [hn] at hh
      exact ⟨hh.1, hh.2.1, fun c h1 => h _ _ (hh.2.2 c h1)⟩

/-- What it is for a run. -/
theorem wpOp_of_zOp {i : Nat} {a : Act} {G : Gz} {w : World} {K : Act → Gz → Prop} {K' : Act → World → Prop} {Q : Exit → Act → World → Prop} (hz : HeldZ W G w)
    (h : ∀ a G w, HeldZ W G w → K a G → K' a w) (hh : zOp P ops W N i K a G) : wpOp P ops Q i K' a w := by
  obtain ⟨hw, hf, hk⟩ := hz
  have step : ∀ (n : In w), HeldZ W G n.w := fun n => ⟨⟨hw.below.trans (n.h.mono hw.below.size), fun k o hk => by
    have h4 := hw.own k o hk
    rw [n.h.block k (by rcases Nat.lt_or_ge k w.heap.size with hlt | hge
                        · exact hlt
                        · rw [Array.getElem?_eq_none hge] at h4; cases h4)]
    exact h4⟩, hk _ _ hf n.h, hk⟩
  unfold zOp at hh
  unfold wpOp
  cases ho : ops[i]? with
  | none => simp only [ho] at hh; exact h _ _ _ ⟨hw, hf, hk⟩ hh
  | some o =>
    simp only [ho] at hh ⊢
    generalize N i = kd at hh
    cases kd with
    | calm =>
      simp only [Kd.isCalm, if_true] at hh
      split
      · rename_i hwant
        simp only [hwant, if_true] at hh
        obtain ⟨v, hv, hK⟩ := hh
        refine .inl ?_
        have h3 := hv ⟨w, hw.below⟩
        unfold Oper.wp
        simp only at h3
        generalize (execOp a.eval o).run P w = r at *
        cases r with
        | ok n w' =>
          cases n <;> simp only [Oper.quietUpon] at h3 <;> simp only [Oper.upon]
          case value u =>
            obtain ⟨e1, e2⟩ := h3
            rw [e1, e2]
            exact h _ _ _ ⟨hw, hf, hk⟩ hK
          case skip =>
            obtain ⟨e1, e2⟩ := h3
            rw [e1, ← e2]
            exact h _ _ _ ⟨hw, hf, hk⟩ hK
          case enter f args =>
            obtain ⟨e1, hc⟩ := h3
            rw [e1]
            refine hc.mono fun e w'' ⟨he, n, hn⟩ => ?_
            subst he
            subst hn
            exact h _ _ _ (step n) hK
        | halt x w' => simp only [Oper.quietUpon] at h3
      · rename_i hwant
        simp only [hwant] at hh
        exact h _ _ _ ⟨hw, hf, hk⟩ hh
    | news ob f =>
      simp only [Kd.isCalm, Bool.false_eq_true, if_false] at hh
      obtain ⟨hwant, hnew, hK⟩ := hh
      rw [if_pos hwant]
      refine .inl ?_
      unfold Oper.wp
      rw [hnew ⟨w, hw.below⟩]
      simp only [Oper.upon]
      have hfree : G.1 w.heap.size = none := by
        cases hG : G.1 w.heap.size with
        | none => rfl
        | some o' => have := hw.own _ _ hG; rw [Array.getElem?_eq_none (Nat.le_refl _)] at this; cases this
      refine h _ ((Kd.news ob f).upd (w.heap.size, undef) G) _ ⟨⟨hw.below.alloc hw.below.size _, fun k o hkk => ?_⟩, hk _ _ hf ((Below.refl _ _).alloc (Nat.le_refl _) _), hk⟩ (hK (w.heap.size, undef) ⟨hw.below.size, hfree⟩)
      change (G.1.set w.heap.size ob) k = some o at hkk
      by_cases hkb : k = w.heap.size
      · subst hkb
        rw [Gh.set_self] at hkk
        cases hkk
        show (w.heap.push ob)[w.heap.size]? = some ob
        simp
      · rw [Gh.set_ne _ hkb] at hkk
        have h4 := hw.own k o hkk
        have hlt : k < w.heap.size := by
          rcases Nat.lt_or_ge k w.heap.size with hlt | hge
          · exact hlt
          · rw [Array.getElem?_eq_none hge] at h4; cases h4
        rw [Below.heap_alloc _ _ _ hlt]
        exact h4
    | loose R f =>
      simp only [Kd.isCalm, Bool.false_eq_true, if_false] at hh
      obtain ⟨hwant, ⟨hkr, hlo⟩, hK⟩ := hh
      rw [if_pos hwant]
      refine .inl ?_
      have h3 := hlo ⟨w, hw.below⟩
      unfold Oper.wp
      simp only at h3
      generalize (execOp a.eval o).run P w = r at *
      cases r with
      | ok n w' =>
        cases n <;> simp only [looseUpon] at h3
        case value v =>
          obtain ⟨u, rfl, hr, hb⟩ := h3
          simp only [Oper.upon]
          have h5 := step ⟨w', hb⟩
          exact h _ ((Kd.loose R f).upd (0, u) G) _ ⟨h5.held, (show G.2 w' ∧ R (f u) w' from ⟨h5.fact, hr⟩), fun x y hx hb => (show G.2 y ∧ R (f u) y from ⟨hk _ _ hx.1 hb, hkr (f u) _ _ hx.2 hb⟩)⟩ (hK (0, u) trivial)
        case enter g args =>
          obtain ⟨e1, hc⟩ := h3
          subst e1
          simp only [Oper.upon]
          refine hc.mono fun e w'' ⟨v, he, hr, hb⟩ => ?_
          subst he
          have h5 := step ⟨w'', hb⟩
          exact h _ ((Kd.loose R f).upd (0, v) G) _ ⟨h5.held, (show G.2 w'' ∧ R (f v) w'' from ⟨h5.fact, hr⟩), fun x y hx hb => (show G.2 y ∧ R (f v) y from ⟨hk _ _ hx.1 hb, hkr (f v) _ _ hx.2 hb⟩)⟩ (hK (0, v) trivial)
      | halt x w' => simp only [looseUpon] at h3

/-- The head, in whatever order, till L. -/
def anyZ (P : Program) (md : Region.Mode) (ops : Array Oper) (W : World) (N : Nat → Kd) (n : Nat) (L : Array Bool → Act → Gz → Prop) : Nat → Array Bool → Act → Gz → Prop
  | 0, listed, a, G => L listed a G
  | f + 1, listed, a, G =>
    Region.ready md ops listed ≠ [] ∧ ∀ i ∈ Region.ready md ops listed, i < n ∧ zOp P ops W N i (anyZ P md ops W N n L f (listed.setIfInBounds i true)) a G

theorem wpAny_of_anyZ {n g : Nat} {L : Array Bool → Act → Gz → Prop} {Q : Exit → Act → World → Prop} (hL : ∀ listed a G w, HeldZ W G w → L listed a G → wpAny P md ops Q g listed a w) :
    ∀ (f : Nat) (listed : Array Bool) (a : Act) (G : Gz) (w : World), HeldZ W G w → anyZ P md ops W N n L f listed a G → wpAny P md ops Q (f + g) listed a w
  | 0, listed, a, G, w, hw, h => by rw [Nat.zero_add]; exact hL _ _ _ _ hw h
  | f + 1, listed, a, G, w, hw, h => by
    rw [show f + 1 + g = (f + g) + 1 by omega]
    exact ⟨fun h0 => absurd h0 h.1, fun i hi => wpOp_of_zOp hw (fun a' G' w' hw' h' => wpAny_of_anyZ hL f _ a' G' w' hw' h') (h.2 i hi).2⟩

theorem pre_same {k : Kd} {o : Oper} {a a' : Act} (he : execOp a'.eval o = execOp a.eval o) (h : k.pre P o a W) : k.pre P o a' W := by
  cases k with
  | calm => trivial
  | news ob f => exact newsAt_same he h
  | loose R f => exact ⟨h.1, fun n => by rw [he]; exact h.2 n⟩

theorem zOp_put_calm {j : Nat} {oi oj : Oper} {v : Value} (hj : ops[j]? = some oj) (hap : oi.apart ops oj = true)
    (hsi : ∀ cs b, oi.op ≠ .select cs b) (hsj : ∀ cs b, oj.op ≠ .select cs b) {K : Act → Gz → Prop} {a : Act} {G : Gz}
    (hy : CalmY P ops W oi v a) (h : zOp P ops W N j K (a.put oi.dst v) G) :
    zOp P ops W N j (fun a' G' => CalmY P ops W oi v a' ∧ K (a'.put oi.dst v) G') a G := by
  obtain ⟨h1, h2, h3⟩ := Oper.apart_spec hap
  unfold zOp at *
  simp only [hj] at *
  split
  · rename_i hn
    simp only [hn, if_true] at h
    rw [wanted_put oj a oi.dst v h1] at h
    split
    · rename_i hw
      simp only [hw, if_true] at h
      obtain ⟨u, hu, hK⟩ := h
      exact ⟨u, calmAt_same (execOp_put oj hsj a oi.dst v h1).symm hu, hy.put h3 hsi u, by rw [← Act.put_comm a v u h2]; exact hK⟩
    · rename_i hw
      simp only [hw] at h
      exact ⟨hy.put h3 hsi _, by rw [← Act.put_comm a v undef h2]; exact h⟩
  · rename_i hn
    simp only [hn] at h
    obtain ⟨hw, hs, hK⟩ := h
    exact ⟨by rw [← wanted_put oj a oi.dst v h1]; exact hw, pre_same (execOp_put oj hsj a oi.dst v h1).symm hs,
      fun c hc => ⟨hy.put h3 hsi _, by rw [← Act.put_comm a v _ h2]; exact hK c hc⟩⟩

theorem CalmY.zOp {i : Nat} {o : Oper} {v : Value} {a : Act} {G : Gz} (hi : ops[i]? = some o) (hn : (N i).isCalm = true) (hy : CalmY P ops W o v a) {K : Act → Gz → Prop} (h : K (a.put o.dst v) G) : zOp P ops W N i K a G := by
  unfold Go.Proofs.YthchkhgimnchcaaGreat.zOp
  simp only [hi, hn, if_true]
  rcases hy with ⟨hw, hv⟩ | ⟨hw, rfl⟩
  · simp only [hw, if_true]; exact ⟨v, hv, h⟩
  · simp only [hw, Bool.false_eq_true, if_false]; exact h

theorem anyZ_first {n i : Nat} {oi : Oper} {v : Value} {L : Array Bool → Act → Gz → Prop} (hi : ops[i]? = some oi) (hN : (N i).isCalm = true) (hsel : ∀ (j : Nat) (o : Oper) cs b, ops[j]? = some o → o.op ≠ .select cs b)
    (hh : HeadFirst md ops n) (hin : i < n) (hdone : ∀ listed a G, L listed a G → ∀ j ∈ Region.ready md ops listed, n ≤ j) :
    ∀ (f : Nat) (listed : Array Bool) (a : Act) (G : Gz), HeadInv md ops n listed →
      (∀ j oj, ops[j]? = some oj → j ≠ i → listed.getD j true = false → (∀ e ∈ oj.after, Region.binds md e = true → e.on ≠ i) → oi.apart ops oj = true) →
      i ∈ Region.ready md ops listed → CalmY P ops W oi v a →
      anyZ P md ops W N n L f (listed.setIfInBounds i true) (a.put oi.dst v) G → anyZ P md ops W N n L (f + 1) listed a G := by
  intro f
  induction f with
  | zero =>
    intro listed a G inv _ hr hy H
    have hun := (mem_ready.1 hr).1
    refine ⟨fun h => (by rw [h] at hr; cases hr), fun j hj => ?_⟩
    refine ⟨hh.lt inv hin hun hj, ?_⟩
    by_cases hji : j = i
    · subst hji; exact hy.zOp hi hN H
    · have := hdone _ _ _ H j (ready_mono hj hji)
      have := hh.lt inv hin hun hj
      omega
  | succ f ih =>
    intro listed a G inv hfree hr hy H
    have hun := (mem_ready.1 hr).1
    refine ⟨fun h => (by rw [h] at hr; cases hr), fun j hj => ?_⟩
    have hjn := hh.lt inv hin hun hj
    refine ⟨hjn, ?_⟩
    by_cases hji : j = i
    · subst hji; exact hy.zOp hi hN H
    · have h1 := (H.2 j (ready_mono hj hji)).2
      obtain ⟨hjun, oj, hoj, hall⟩ := mem_ready.1 hj
      have h2 := zOp_put_calm hoj (hfree j oj hoj hji hjun (not_after (j := j) hun hall rfl rfl)) (fun cs b => hsel i oi cs b hi) (fun cs b => hsel j oj cs b hoj) hy h1
      have hfree' : ∀ k ok, ops[k]? = some ok → k ≠ i → (listed.setIfInBounds j true).getD k true = false →
          (∀ e ∈ ok.after, Region.binds md e = true → e.on ≠ i) → oi.apart ops ok = true := fun k ok hk hki hun' hno => by
        refine hfree k ok hk hki ?_ hno
        by_cases hjk : j = k
        · subst hjk; exact hjun
        · rw [getD_set_ne true hjk] at hun'; exact hun'
      refine zOp_mono (fun a' G' h3 => ih (listed.setIfInBounds j true) a' G' (inv.set hj hjn) hfree' (ready_mono hr (Ne.symm hji)) h3.1 ?_) h2
      rw [Array.setIfInBounds_comm _ _ hji]
      exact h3.2

/-! ### An operation whose value is not settled -/
theorem ok_ex (k : Kd) {G : Gz} (h : G.1.few) : ∃ c, k.ok W c G := by
  obtain ⟨M, hM⟩ := h
  cases k with
  | news o f => exact ⟨(max M W.heap.size, undef), by show W.heap.size ≤ max M W.heap.size; omega, hM _ (by show M ≤ max M W.heap.size; omega)⟩
  | calm => exact ⟨(0, undef), trivial⟩
  | loose R f => exact ⟨(0, undef), trivial⟩
theorem upd_few (k : Kd) (c : Nat × Value) {G : Gz} (h : G.1.few) : (k.upd c G).1.few := by
  cases k with
  | news o f => exact Gh.few_set h _ _
  | calm => exact h
  | loose R f => exact h
/-- two such may be settled in either order -/
theorem upd_comm (k l : Kd) (c d : Nat × Value) {G : Gz} (hd : l.ok W d G) (hc : k.ok W c (l.upd d G)) : k.ok W c G ∧ l.ok W d (k.upd c G) ∧ l.upd d (k.upd c G) = k.upd c (l.upd d G) := by
  cases k with
  | calm => exact ⟨trivial, hd, rfl⟩
  | news o f =>
    cases l with
    | calm => exact ⟨hc, trivial, rfl⟩
    | news p g =>
      obtain ⟨h1, h2⟩ := hc
      simp only [Kd.upd] at h2
      have hne : c.1 ≠ d.1 := fun e => by rw [e, Gh.set_self] at h2; cases h2
      rw [Gh.set_ne _ hne] at h2
      refine ⟨⟨h1, h2⟩, ⟨hd.1, ?_⟩, ?_⟩
      · show (G.1.set c.1 o) d.1 = none
        rw [Gh.set_ne _ (Ne.symm hne)]
        exact hd.2
      · simp only [Kd.upd]
        rw [Gh.set_comm _ _ hne]
    | loose R f => exact ⟨hc, trivial, rfl⟩
  | loose R f =>
    cases l with
    | calm => exact ⟨trivial, trivial, rfl⟩
    | news p g => exact ⟨trivial, hd, rfl⟩
    | loose S g =>
      refine ⟨trivial, trivial, ?_⟩
      simp only [Kd.upd]
      congr 1
      funext w
      exact propext ⟨fun ⟨⟨h1, h2⟩, h3⟩ => ⟨⟨h1, h3⟩, h2⟩, fun ⟨⟨h1, h2⟩, h3⟩ => ⟨⟨h1, h3⟩, h2⟩⟩

theorem zOp_put_ind {j : Nat} {k : Kd} {oi oj : Oper} (hj : ops[j]? = some oj) (hap : oi.apart ops oj = true)
    (hsi : ∀ cs b, oi.op ≠ .select cs b) (hsj : ∀ cs b, oj.op ≠ .select cs b) {K : Act → Gz → Prop} {a : Act} {G : Gz} (hfew : G.1.few)
    (hwi : Region.wanted oi (yielded ops a.tmps) = true) (hy : k.pre P oi a W) (h : ∀ c, k.ok W c G → zOp P ops W N j K (a.put oi.dst (k.val c)) (k.upd c G)) :
    zOp P ops W N j (fun a' G' => G'.1.few ∧ Region.wanted oi (yielded ops a'.tmps) = true ∧ k.pre P oi a' W ∧ ∀ c, k.ok W c G' → K (a'.put oi.dst (k.val c)) (k.upd c G')) a G := by
  obtain ⟨h1, h2, h3⟩ := Oper.apart_spec hap
  obtain ⟨c0, hc0⟩ := ok_ex (W := W) k hfew
  unfold zOp at *
  simp only [hj] at *
  split
  · rename_i hn
    simp only [hn, if_true] at h
    split
    · rename_i hw
      have h' : ∀ c, k.ok W c G → ∃ u, calmAt P oj a W u ∧ K ((a.put oi.dst (k.val c)).put oj.dst u) (k.upd c G) := fun c hc => by
        have h5 := h c hc
        rw [wanted_put oj a oi.dst _ h1] at h5
        simp only [hw, if_true] at h5
        obtain ⟨u, hu, hK⟩ := h5
        exact ⟨u, calmAt_same (execOp_put oj hsj a oi.dst _ h1).symm hu, hK⟩
      obtain ⟨u, hu, _⟩ := h' c0 hc0
      refine ⟨u, hu, hfew, by rw [wanted_put oi a oj.dst _ h3]; exact hwi, pre_same (execOp_put oi hsi a oj.dst _ h3) hy, fun c hc => ?_⟩
      obtain ⟨u', hu', hK⟩ := h' c hc
      have e : u' = u := upon_unique (hu' (In.self W)) (hu (In.self W))
      subst e
      rw [← Act.put_comm a _ _ h2]
      exact hK
    · rename_i hw
      refine ⟨hfew, by rw [wanted_put oi a oj.dst _ h3]; exact hwi, pre_same (execOp_put oi hsi a oj.dst _ h3) hy, fun c hc => ?_⟩
      have h5 := h c hc
      rw [wanted_put oj a oi.dst _ h1] at h5
      simp only [hw] at h5
      rw [← Act.put_comm a _ _ h2]
      exact h5
  · rename_i hn
    simp only [hn] at h
    obtain ⟨hw, hs, _⟩ := h c0 hc0
    refine ⟨by rw [← wanted_put oj a oi.dst _ h1]; exact hw, pre_same (execOp_put oj hsj a oi.dst _ h1).symm hs, fun d hd => ⟨upd_few _ _ hfew, ?_, ?_, fun c hc => ?_⟩⟩
    · rw [wanted_put oi a oj.dst _ h3]; exact hwi
    · exact pre_same (execOp_put oi hsi a oj.dst _ h3) hy
    · obtain ⟨g1, g2, g3⟩ := upd_comm k (N j) c d hd hc
      have h5 := (h c g1).2.2 d g2
      rw [Act.put_comm a _ _ h2, g3] at h5
      exact h5

theorem anyZ_ind {n i : Nat} {oi : Oper} {L : Array Bool → Act → Gz → Prop} (hi : ops[i]? = some oi) (hN : (N i).isCalm = false) (hsel : ∀ (j : Nat) (o : Oper) cs b, ops[j]? = some o → o.op ≠ .select cs b)
    (hh : HeadFirst md ops n) (hin : i < n) (hdone : ∀ listed a G, L listed a G → ∀ j ∈ Region.ready md ops listed, n ≤ j) :
    ∀ (f : Nat) (listed : Array Bool) (a : Act) (G : Gz), HeadInv md ops n listed →
      (∀ j oj, ops[j]? = some oj → j ≠ i → listed.getD j true = false → (∀ e ∈ oj.after, Region.binds md e = true → e.on ≠ i) → oi.apart ops oj = true) →
      i ∈ Region.ready md ops listed → G.1.few → Region.wanted oi (yielded ops a.tmps) = true → (N i).pre P oi a W →
      (∀ c, (N i).ok W c G → anyZ P md ops W N n L f (listed.setIfInBounds i true) (a.put oi.dst ((N i).val c)) ((N i).upd c G)) → anyZ P md ops W N n L (f + 1) listed a G := by
  have direct : ∀ {K : Act → Gz → Prop} {a : Act} {G : Gz}, Region.wanted oi (yielded ops a.tmps) = true → (N i).pre P oi a W → (∀ c, (N i).ok W c G → K (a.put oi.dst ((N i).val c)) ((N i).upd c G)) → zOp P ops W N i K a G := by
    intro K a G h1 h2 h3
    unfold zOp
    simp only [hi, hN, Bool.false_eq_true, if_false]
    exact ⟨h1, h2, h3⟩
  intro f
  induction f with
  | zero =>
    intro listed a G inv _ hr hfew hwi hy H
    have hun := (mem_ready.1 hr).1
    refine ⟨fun h => (by rw [h] at hr; cases hr), fun j hj => ?_⟩
    refine ⟨hh.lt inv hin hun hj, ?_⟩
    by_cases hji : j = i
    · subst hji; exact direct hwi hy H
    · obtain ⟨c0, hc0⟩ := ok_ex (W := W) (N i) hfew
      have := hdone _ _ _ (H c0 hc0) j (ready_mono hj hji)
      have := hh.lt inv hin hun hj
      omega
  | succ f ih =>
    intro listed a G inv hfree hr hfew hwi hy H
    have hun := (mem_ready.1 hr).1
    refine ⟨fun h => (by rw [h] at hr; cases hr), fun j hj => ?_⟩
    have hjn := hh.lt inv hin hun hj
    refine ⟨hjn, ?_⟩
    by_cases hji : j = i
    · subst hji; exact direct hwi hy H
    · obtain ⟨hjun, oj, hoj, hall⟩ := mem_ready.1 hj
      have h2 := zOp_put_ind (N := N) (k := N i) hoj (hfree j oj hoj hji hjun (not_after (j := j) hun hall rfl rfl)) (fun cs b => hsel i oi cs b hi) (fun cs b => hsel j oj cs b hoj) hfew hwi hy
        (fun c hc => ((H c hc).2 j (ready_mono hj hji)).2)
      have hset : ∀ k, (listed.setIfInBounds j true).getD k true = false → listed.getD k true = false := fun k hk => by
        by_cases hjk : j = k
        · subst hjk; exact hjun
        · rw [getD_set_ne true hjk] at hk; exact hk
      refine zOp_mono (fun a' G' h3 => ih (listed.setIfInBounds j true) a' G' (inv.set hj hjn) (fun k ok hk hki hun' hno => hfree k ok hk hki (hset k hun') hno)
        (ready_mono hr (Ne.symm hji)) h3.1 h3.2.1 h3.2.2.1 (fun c hc => ?_)) h2
      rw [Array.setIfInBounds_comm _ _ hji]
      exact h3.2.2.2 c hc

/-! ### The text's order -/
def wpK (P : Program) (ops : Array Oper) (W : World) (Q : Act → Gz → Prop) : List Kd → List Oper → Act → Gz → Prop
  | [], [], a, G => Q a G
  | k :: ks, o :: l, a, G =>
    if k.isCalm then
      if Region.wanted o (yielded ops a.tmps) then ∃ v, calmAt P o a W v ∧ wpK P ops W Q ks l (a.put o.dst v) G else wpK P ops W Q ks l (a.put o.dst undef) G
    else Region.wanted o (yielded ops a.tmps) = true ∧ k.pre P o a W ∧ ∀ c, k.ok W c G → wpK P ops W Q ks l (a.put o.dst (k.val c)) (k.upd c G)
  | _, _, _, _ => False

theorem anyZ_of_K {n g : Nat} {Lq : Act → Gz → Prop} (hsel : Region.noSelect ops = true) (hh : HeadFirst md ops n) (hle : n ≤ ops.size) :
    ∀ (ks : List Kd) (l : List Oper) (k : Nat) (listed : Array Bool) (a : Act) (G : Gz), (∀ j, j < l.length → l[j]? = ops[k + j]?) → (∀ j kd, ks[j]? = some kd → N (k + j) = kd) → k + l.length = n →
    (∀ j, j < k → listed.getD j true = true) → HeadInv md ops n listed → G.1.few →
    Region.lexHead md ops g l.length k listed = true → wpK P ops W Lq ks l a G →
    anyZ P md ops W N n (fun listed' a' G' => Region.seqB md ops g n listed' = true ∧ Lq a' G') l.length listed a G
  | [], [], k, listed, a, G, hl, hs, hk, hdone, inv, hfew, hB, h => by
    have : k = n := by simpa using hk
    subst this
    exact ⟨by simpa [Region.lexHead] using hB, h⟩
  | [], _ :: _, _, _, _, _, _, _, _, _, _, _, _, h => by unfold wpK at h; exact h.elim
  | _ :: _, [], _, _, _, _, _, _, _, _, _, _, _, h => by unfold wpK at h; exact h.elim
  | kd :: ks, o :: l, k, listed, a, G, hl, hs, hk, hdone, inv, hfew, hB, h => by
    have h0 : ops[k]? = some o := by simpa using (hl 0 (by simp)).symm
    have hkn : k < n := by simp only [List.length_cons] at hk; omega
    have hNk : N k = kd := by simpa using hs 0 kd rfl
    simp only [List.length_cons, Region.lexHead, Bool.and_eq_true] at hB
    obtain ⟨⟨hr, hf⟩, hB'⟩ := hB
    have hr' : k ∈ Region.ready md ops listed := by simpa using hr
    have hl' : ∀ j, j < l.length → l[j]? = ops[k + 1 + j]? := fun j hj => by have := hl (j + 1) (by simp; omega); simpa [Nat.add_assoc, Nat.add_comm 1 j] using this
    have hs' : ∀ j kd', ks[j]? = some kd' → N (k + 1 + j) = kd' := fun j kd' hj => by have := hs (j + 1) kd' (by simpa using hj); simpa [Nat.add_assoc, Nat.add_comm 1 j] using this
    have hk' : k + 1 + l.length = n := by simp only [List.length_cons] at hk; omega
    have hdone' : ∀ j, j < k + 1 → (listed.setIfInBounds k true).getD j true = true := by
      intro j hj
      by_cases hjk : k = j
      · subst hjk
        have : k < listed.size := by rw [inv.size]; omega
        simp [this]
      · rw [getD_set_ne true hjk]; exact hdone j (by omega)
    unfold wpK at h
    by_cases hc : kd.isCalm = true
    · rw [if_pos hc] at h
      obtain ⟨v, hy, hK⟩ : ∃ v, CalmY P ops W o v a ∧ wpK P ops W Lq ks l (a.put o.dst v) G := by
        by_cases hw : Region.wanted o (yielded ops a.tmps) = true
        · simp only [hw, if_true] at h
          obtain ⟨v, hv, hK⟩ := h
          exact ⟨v, .inl ⟨hw, hv⟩, hK⟩
        · simp only [hw] at h
          exact ⟨undef, .inr ⟨by simpa using hw, rfl⟩, h⟩
      refine anyZ_first h0 (by rw [hNk]; exact hc) (Region.noSelect_spec hsel) hh hkn (fun listed' a' G' hL => seqB_ready hL.1) l.length listed a G inv (Region.free_spec h0 hf) hr' hy ?_
      exact anyZ_of_K hsel hh hle ks l (k + 1) _ _ _ hl' hs' hk' hdone' (inv.set hr' hkn) hfew hB' hK
    · rw [if_neg hc] at h
      obtain ⟨hw, hp, hrest⟩ := h
      have hNk' := hNk
      subst hNk
      refine anyZ_ind h0 (by simpa using hc) (Region.noSelect_spec hsel) hh hkn (fun listed' a' G' hL => seqB_ready hL.1) l.length listed a G inv (Region.free_spec h0 hf) hr' hfew hw hp (fun c hok => ?_)
      exact anyZ_of_K hsel hh hle ks l (k + 1) _ _ _ hl' hs' hk' hdone' (inv.set hr' hkn) (upd_few _ _ hfew) hB' (hrest c hok)

/-- how a head is told: k operations that read or call; or one that is not settled -/
inductive Seg
  | calm (k : Nat)
  | ind (k : Kd)
def kindsOf : List Seg → List Kd
  | [] => []
  | .calm k :: ss => List.replicate k .calm ++ kindsOf ss
  | .ind k :: ss => k :: kindsOf ss
def wpMix (P : Program) (ops : Array Oper) (W : World) (Q : Act → Gz → Prop) : List Seg → List Oper → Act → Gz → Prop
  | [], l, a, G => l = [] ∧ Q a G
  | .calm k :: ss, l, a, G => k ≤ l.length ∧ ∀ M : In W, wpQuiet P ops (fun w' => ∃ n : In M.w, w' = n.w) (fun a' => wpMix P ops W Q ss (l.drop k) a' G) (l.take k) a
  | .ind k :: ss, l, a, G =>
    match l with
    | [] => False
    | o :: l => k.isCalm = false ∧ Region.wanted o (yielded ops a.tmps) = true ∧ k.pre P o a W ∧ ∀ c, k.ok W c G → ∀ a', a' = a.put o.dst (k.val c) → wpMix P ops W Q ss l a' (k.upd c G)
theorem wpK_of_calm {Q : Act → Gz → Prop} (ks : List Kd) : ∀ (l l2 : List Oper) (a : Act) (G : Gz), wpCalm P ops W (fun a' => wpK P ops W Q ks l2 a' G) l a → wpK P ops W Q (List.replicate l.length .calm ++ ks) (l ++ l2) a G
  | [], l2, a, G, h => by simpa [wpCalm] using h
  | o :: l, l2, a, G, h => by
    rw [List.length_cons, List.replicate_succ, List.cons_append, List.cons_append]
    unfold wpK
    unfold wpCalm at h
    simp only [Kd.isCalm, if_true]
    split
    · rename_i hw
      simp only [hw, if_true] at h
      exact h.imp fun v hv => ⟨hv.1, wpK_of_calm ks l l2 _ _ hv.2⟩
    · rename_i hw
      simp only [hw] at h
      exact wpK_of_calm ks l l2 _ _ h
theorem wpK_of_mix {Q : Act → Gz → Prop} : ∀ (ss : List Seg) (l : List Oper) (a : Act) (G : Gz), wpMix P ops W Q ss l a G → wpK P ops W Q (kindsOf ss) l a G
  | [], l, a, G, h => by
    obtain ⟨rfl, h⟩ := h
    unfold kindsOf wpK
    exact h
  | .calm k :: ss, l, a, G, h => by
    obtain ⟨hk, h⟩ := h
    have h2 := wpCalm_of_quiet (P := P) (ops := ops) (W := W) _ _ h
    have h3 : wpCalm P ops W (fun a' => wpK P ops W Q (kindsOf ss) (l.drop k) a' G) (l.take k) a := by
      have mono : ∀ (l : List Oper) (a : Act) {Q1 Q2 : Act → Prop}, (∀ a, Q1 a → Q2 a) → wpCalm P ops W Q1 l a → wpCalm P ops W Q2 l a := by
        intro l
        induction l with
        | nil => intro a Q1 Q2 hq h; exact hq _ h
        | cons o l ih =>
          intro a Q1 Q2 hq h
          unfold wpCalm at h ⊢
          split
          · rename_i hw
            simp only [hw, if_true] at h
            exact h.imp fun v hv => ⟨hv.1, ih _ hq hv.2⟩
          · rename_i hw
            simp only [hw] at h
            exact ih _ hq h
      exact mono _ _ (fun a' ha' => wpK_of_mix ss _ a' G ha') h2
    have h4 := wpK_of_calm (kindsOf ss) (l.take k) (l.drop k) a G h3
    rw [List.take_append_drop, List.length_take, Nat.min_eq_left hk] at h4
    exact h4
  | .ind k :: ss, [], a, G, h => by unfold wpMix at h; exact h.elim
  | .ind k :: ss, o :: l, a, G, h => by
    unfold wpMix at h
    unfold kindsOf wpK
    obtain ⟨h0, h1, h2, h3⟩ := h
    rw [if_neg (by rw [h0]; decide)]
    exact ⟨h1, h2, fun c hc => wpK_of_mix ss l _ _ (h3 c hc _ rfl)⟩

/-- THE LAW. -/
theorem wp_region_loose {id : Nat} {Q : Exit → Act → World → Prop} {a : Act} {l : List Oper} (n : Nat) (segs : List Seg) (hm : P.follows .mixedOrders = true)
    (hle : n ≤ l.length) (hB : calmB .any l.toArray n = true)
    (h : wpMix P l.toArray W (fun a'' G => ∀ w', HeldZ W G w' → wpList P l.toArray Q (l.drop n) a'' w') segs (l.take n) a (Gh.none, fun _ => True)) :
    (Code.region id l.toArray true).wp P Q a W := by
  unfold calmB at hB
  simp only [Bool.and_eq_true, Bool.or_eq_true, beq_iff_eq, decide_eq_true_eq] at hB
  obtain ⟨⟨hsel, hh0⟩, hlex⟩ := hB
  have hh : HeadFirst .any l.toArray n := hh0.imp (fun x => x) fun x => ⟨x.1.2, x.2, x.1.1⟩
  have hsz : l.toArray.size = l.length := by simp
  have htl : (l.take n).length = n := by simp; omega
  have inv0 : HeadInv .any l.toArray n (Array.replicate l.toArray.size false) :=
    ⟨by simp, fun j oj _ hl => (by rw [getD_replicate_false] at hl; cases hl), fun t _ ht => getD_in (by simpa using ht) (getD_replicate_false _ _)⟩
  have H := anyZ_of_K (P := P) (W := W) (md := .any) (N := fun j => (kindsOf segs).getD j .calm) (g := l.toArray.size - n) hsel hh (by simpa using hle) (kindsOf segs) (l.take n) 0 _ a (Gh.none, fun _ => True)
    (fun j hj => by
      rw [htl] at hj
      simp [hj]) (fun j kd hj => by
      simp [List.getD_eq_getElem?_getD, hj]) (by omega) (fun j hj => by omega) inv0 Gh.few_none (by rw [htl]; exact hlex) (wpK_of_mix _ _ _ _ h)
  refine wp_region_any hm ?_
  have h6 := wpAny_of_anyZ (Q := Q) (g := l.toArray.size - n) (fun listed a' G w' hw' hL => by
    have hdl : (l.drop n).length = l.toArray.size - n := by simp
    have := wpAny_of_seq (P := P) (md := .any) (Q' := Q) (l.drop n) n listed a' w' (fun j => by simp [List.getElem?_drop]) (by rw [hdl]; exact hL.1) (hL.2 w' hw')
    rwa [hdl] at this) _ _ _ _ W.drew ⟨⟨(Below.refl _ _).drew, fun k o hk => by cases hk⟩, trivial, fun _ _ _ _ => trivial⟩ H
  rw [htl, show n + (l.toArray.size - n) = l.toArray.size by omega] at h6
  exact h6

theorem loose_val {o : Oper} {a : Act} {R : Value → World → Prop} {f : Value → Value} (hk : ∀ v, KeptF (R v)) (hc : ∀ n : In W, ∃ u w', (execOp a.eval o).run P n.w = .ok (.value (f u)) w' ∧ R (f u) w' ∧ Below n.w.heap.size n.w w') : looseAt P o a W R f := ⟨hk, fun n => by
  obtain ⟨v, w', he, h⟩ := hc n
  rw [he]
  exact ⟨v, rfl, h⟩⟩
theorem loose_of {o : Oper} {a : Act} {R : Value → World → Prop} {f : FuncId} {args : Array Value} (hk : ∀ v, KeptF (R v)) (he : ∀ n : In W, (execOp a.eval o).run P n.w = .ok (.enter f args) n.w)
    (hc : ∀ n : In W, Calls P f args n.w fun e w' => ∃ v, e = .returned v ∧ R v w' ∧ Below n.w.heap.size n.w w') : looseAt P o a W R (fun v => v) := ⟨hk, fun n => by rw [he n]; exact ⟨rfl, hc n⟩⟩
end
end Go.Proofs.YthchkhgimnchcaaGreat
/- 'append([]T{}, x...)' in a region that draws its order, at any place among others: no link asks what another has left. FOR ALL LATER STAGES. -/
namespace Go.Proofs.YthchkhgimnchcaaGreat
open Go.RowKit Go.ChangeShapes Go.WideShapes Go.Joins Go.Deep

section
variable {P : Program} {α : Type} {K : Nat} {cs : α → List Value} {W : World} {o : Oper} {a : Act}

/-- a copy in memory of one's own; of none: a slice of nothing, anywhere -/
def FreshR (B : Nat) (e : TypeId) (K : Nat) (cs : α → List Value) (m : List α) (v : Value) (w : World) : Prop := (m = [] ∧ ∃ b, v = .slice (some ⟨b, 0, none⟩) 0 0) ∨ (m ≠ [] ∧ OwnR w B e K cs v m)
theorem FreshR.kept {B : Nat} {e : TypeId} {m : List α} {v : Value} : KeptF (FreshR B e K cs m v) := fun w w' h hb => by
  rcases h with h | ⟨h1, h2⟩
  · exact .inl h
  · exact .inr ⟨h1, OwnR.kept h2 hb⟩
theorem FreshR.form {B : Nat} {e : TypeId} {m : List α} {v : Value} {w : World} (h : FreshR B e K cs m v w) (hK : ∀ x, (cs x).length = K) : ∃ x c, v = .slice x m.length c := by
  rcases h with ⟨rfl, b, rfl⟩ | ⟨_, h⟩
  · exact ⟨_, _, rfl⟩
  · exact RowsAt.form (OwnR.rows hK h)
theorem FreshR.rows {B : Nat} {e : TypeId} {m : List α} {v : Value} {w : World} (h : FreshR B e K cs m v w) (hK : ∀ x, (cs x).length = K) : RowsAt w K cs v m := by
  rcases h with ⟨rfl, b, rfl⟩ | ⟨_, h⟩
  · exact ⟨_, _, rfl, Nat.le_refl _, fun h => absurd h (by simp)⟩
  · exact OwnR.rows hK h
theorem FreshR.away {B : Nat} {e : TypeId} {m : List α} {v : Value} {w : World} (h : FreshR B e K cs m v w) (p : Addr) (u : Value) (hp : p.block < B) : FreshR B e K cs m v (w.setCell p u) := by
  rcases h with h | ⟨h1, h2⟩
  · exact .inl h
  · refine .inr ⟨h1, OwnR.away h2 p u ?_⟩
    intro hk
    have := (World.ownsRow.lt h2 _ hk).1
    omega
theorem FreshR.base {B B' : Nat} {e : TypeId} {m : List α} {v : Value} {w : World} (h : FreshR B e K cs m v w) (hB : B' ≤ B) : FreshR B' e K cs m v w := by
  rcases h with h | ⟨h1, h2⟩
  · exact .inl h
  · refine .inr ⟨h1, h2.1, ?_⟩
    rcases h2.2 with h | ⟨g, c, u, e1, hg, hr⟩
    · exact .inl h
    · exact .inr ⟨g, c, u, e1, by omega, hr⟩
/-- where each stands its block tells of what: two lists of unlike things have unlike blocks -/
theorem OwnR.unlike {β : Type} {K' : Nat} {cs' : β → List Value} {B B' : Nat} {e e' : TypeId} {v v' : Value} {l : List α} {l' : List β} {w : World} (h : OwnR w B e K cs v l) (h' : OwnR w B' e' K' cs' v' l') (hne : e ≠ e') : ∀ g, v.ownBlock = some g → v'.ownBlock ≠ some g := by
  intro g h1 h2
  rcases h.2 with ⟨rfl, _⟩ | ⟨g1, c1, u1, rfl, _, e1, _⟩
  · simp [Value.ownBlock] at h1
  · rcases h'.2 with ⟨rfl, _⟩ | ⟨g2, c2, u2, rfl, _, e2, _⟩
    · simp [Value.ownBlock] at h2
    · simp [Value.ownBlock] at h1 h2
      subst h1
      subst h2
      rw [e1] at e2
      injection e2 with e2
      injection e2 with _ e3
      exact hne e3

/-- a slice's address and capacity -/
def slA : Value → Option Addr
  | .slice a _ _ => a
  | _ => none
def slC : Value → Nat
  | .slice _ _ c => c
  | _ => 0
/-- append([]T{}, x...); '[]T{}' ahead of it: .news (.cells #[] e) (fun b => .slice (some ⟨b, 0, none⟩) 0 0) -/
theorem loose_clone (s x : Operand) (t tx : TypeId) (ho : o.op = .call { callee := .builtin .append, args := #[s, x], argTypes := #[t, tx] })
    (hK : ∀ x, (cs x).length = K) (hK0 : 0 < K) (hone : ∀ x, ∀ u ∈ cs x, u.oneCell' = true) (e ex : TypeId) (i : TypeInfo) (z : Value) (ht : P.underlying t = some (.slice e)) (htx : P.underlying tx = some (.slice ex)) (hi : P.info? e = some i) (hz : i.zero = some z) (hsize : i.size = K) (hzs : z.cells.size = K)
    (b : Nat) (hs : a.eval s = .slice (some ⟨b, 0, none⟩) 0 0) (vx : Value) (m : List α) (hvx : a.eval x = vx) (hlen : m.length ≤ maxLen) (hbytes : m.length * i.bytes ≤ 140737488355328)
    (hG : ∀ n : In W, RowsAt n.w K cs vx m) : looseAt P o a W (FreshR W.heap.size e K cs m) (fun v => .slice (slA v) m.length (slC v)) :=
  loose_val (fun _ => FreshR.kept) fun n => by
    have hsr := OwnO.src (P := P) (w := n.w) htx hK hone (hG n)
    have hfm := flats_length hK m
    subst hsize
    by_cases hm : m = []
    · subst hm
      have hrun := run_append_room_src (P := P) n.w t tx o.type e i ht hi b 0 0 0 vx 0 (flats cs ([] : List α)) hsr (Nat.le_refl _) (fun j hj => by rw [hfm] at hj; simp at hj) (fun j hj => by rw [hfm] at hj; simp at hj)
      have hrun2 : (Builtin.append_ #[t, tx] o.type #[.slice (some ⟨b, 0, none⟩) 0 0, vx]).run P n.w = .ok (.slice (some ⟨b, 0, none⟩) 0 0) n.w := hrun
      refine ⟨.slice (some ⟨b, 0, none⟩) 0 0, n.w, ?_, .inl ⟨rfl, b, rfl⟩, Below.refl _ _⟩
      simp [execOp, ho, resolve, invoke, builtin, hs, hvx, hrun2, Result.andThen, slA, slC]
    · have h0 : 0 < m.length := List.length_pos_iff.2 hm
      have hrun := run_append_grow_src (P := P) n.w t tx o.type e i z ht hi hz (some ⟨b, 0, none⟩) 0 0 [] (run_firstCells_some n.w.drew i.size 0 ⟨b, 0, none⟩ 0 0 [] (by simp) (by simp)) vx m.length (flats cs m) hsr (by omega) (by simp only [maxLen] at hlen; omega) (growslice_fits (by omega) (by simpa using hbytes))
      rw [Nat.zero_add] at hrun
      have hge := grownCap_ge n.w m.length 0 e
      have hcm := grownCap_le_maxLen n.w m.length 0 e (by omega)
      have he : (execOp a.eval o).run P n.w = .ok (.value (.slice (some ⟨n.w.heap.size, 0, none⟩) m.length (grownCap n.w m.length 0 e))) (n.w.drew.alloc (.cells (([] ++ flats cs m).toArray ++ Builtin.zeroCells z.cells (grownCap n.w m.length 0 e - m.length)) e)) := by
        simp [execOp, ho, resolve, invoke, builtin, hs, hvx, hrun, Result.andThen]
      refine ⟨.slice (some ⟨n.w.heap.size, 0, none⟩) m.length (grownCap n.w m.length 0 e), _, he, .inr ⟨hm, ?_⟩, ?_⟩
      · refine ⟨hfm, .inr ⟨n.w.heap.size, grownCap n.w m.length 0 e, _, rfl, n.h.size, heap_alloc_new n.w.drew _, hge, hcm, ?_, ?_⟩⟩
        · rw [Array.size_append, List.size_toArray, List.nil_append, hfm, size_zeroCells, hzs, ← Nat.add_mul]
          congr 1
          omega
        · rw [Array.toList_append, List.nil_append, List.take_append_of_le_length (by simp [hfm])]
          rw [List.take_of_length_le (by simp [hfm])]
      · exact ((Below.refl n.w.heap.size n.w).drew).alloc (Nat.le_refl _) _
end
end Go.Proofs.YthchkhgimnchcaaGreat
/- Stage 13: the document's Ahead, Drop, Put, Find, IDs. -/
namespace Go.Proofs.YthchkhgimnchcaaGreat
open Go.RowKit

def csT (x : Th) : List Value := [.int .i64 x.id, .int .i64 x.key, .int .i64 x.seq]
theorem csT_len (x : Th) : (csT x).length = 3 := rfl
theorem csT_one (x : Th) : ∀ u ∈ csT x, u.oneCell' = true := by
  intro u hu
  simp [csT] at hu
  rcases hu with rfl | rfl | rfl <;> rfl
abbrev ThAt (w : World) (v : Value) (l : List Th) : Prop := RowsAt w 3 csT v l
theorem ThAt.at {w : World} {v : Value} {l : List Th} (h : ThAt w v l) (k : Nat) (hk : k < l.length) :
    ∃ g o c, v = .slice (some ⟨g, o, none⟩) l.length c ∧ l.length ≤ c ∧ g < w.heap.size ∧ w.cell? ⟨g, o + k * 3, none⟩ = some (.int .i64 l[k].id) ∧ w.cell? ⟨g, o + k * 3 + 1, none⟩ = some (.int .i64 l[k].key) ∧ w.cell? ⟨g, o + k * 3 + 2, none⟩ = some (.int .i64 l[k].seq) := by
  obtain ⟨g, o, c, e, hc, hg, hx⟩ := h.spot k hk
  exact ⟨g, o, c, e, hc, hg, hx 0 _ rfl, hx 1 _ rfl, hx 2 _ rfl⟩
end Go.Proofs.YthchkhgimnchcaaGreat
/- Stage 13: the document's Put, Find, IDs. -/
namespace Go.Proofs.YthchkhgimnchcaaGreat
open Go.RowKit

/-- what is still to be gathered -/
def restT (x : Th) (d : Bool) (l : List Th) : List Th := if d then l else insT x l
theorem restT_step (x r : Th) (l : List Th) (d : Bool) : restT x d (r :: l) = (if !d && ahead x r then [x] else []) ++ r :: restT x (d || ahead x r) l := by
  unfold restT
  cases d
  · cases h : ahead x r <;> simp [insT, h]
  · simp

end Go.Proofs.YthchkhgimnchcaaGreat
/- Stage 13: the document's Find, IDs. -/
namespace Go.Proofs.YthchkhgimnchcaaGreat
open Go.RowKit

theorem fndT_take (l : List Th) (id : Int) (k : Nat) (hk : k < l.length) (h : ∀ x ∈ l.take k, x.id ≠ id) : if l[k].id = id then fndT l id = (l[k], true) else ∀ x ∈ l.take (k + 1), x.id ≠ id := by
  split
  · rename_i he
    have e : l = l.take k ++ (l[k] :: l.drop (k + 1)) := by rw [← List.drop_eq_getElem_cons hk, List.take_append_drop]
    unfold fndT
    have h1 : l.find? (fun x => decide (x.id = id)) = some l[k] := by
      obtain ⟨y, hy⟩ : ∃ y, l[k] = y := ⟨_, rfl⟩
      rw [hy] at e he ⊢
      rw [e, List.find?_append]
      have : (l.take k).find? (fun x => decide (x.id = id)) = none := by
        rw [List.find?_eq_none]
        intro x hx
        simpa using h x hx
      rw [this, Option.none_or, List.find?_cons_of_pos (by simpa using he)]
    rw [h1]
  · rename_i he
    intro x hx
    rw [List.take_succ_eq_append_getElem hk, List.mem_append] at hx
    rcases hx with hx | hx
    · exact h x hx
    · simp at hx
      subst hx
      exact he
theorem fndT_none (l : List Th) (id : Int) (h : ∀ x ∈ l, x.id ≠ id) : fndT l id = (⟨0, 0, 0⟩, false) := by
  unfold fndT
  have : l.find? (fun x => decide (x.id = id)) = none := by
    rw [List.find?_eq_none]
    intro x hx
    simpa using h x hx
  rw [this]

def idsT (l : List Th) : List Int := l.map Th.id
theorem idsT_take (l : List Th) (k : Nat) (hk : k < l.length) : idsT (l.take (k + 1)) = idsT (l.take k) ++ [l[k].id] := by
  unfold idsT
  rw [List.take_succ_eq_append_getElem hk, List.map_append]
  rfl
theorem idsT_len (l : List Th) : (idsT l).length = l.length := List.length_map ..

end Go.Proofs.YthchkhgimnchcaaGreat
