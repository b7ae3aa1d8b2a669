/- Texts of this proof, joined: Chain; ChainO; Lks; RefSet; IdRef; PlanRefE; PlanRefF; PlanRefG; PlanRefH; PlanRefI; SkillMath; SkillRefA; TkRef. -/
import Derived.Test.YthchkhgimnchcaaBun12
import Derived.Test.YthchkhgimnchcaaRows
/- A region that draws its order, in which some operations (builtin appends, new blocks, calls) stand in a chain, each behind the one before, and change memory that the region has made itself; all others only read, or call quietly; then a tail in a forced order. -/
namespace Go.Proofs.Ythchkhgimnchcaa
open Go.RowKit

section
variable {P : Program} {ops : Array Oper} {md : Region.Mode} {W : World}

/-- what new memory leaves -/
def KeptC (F : World → Prop) : Prop := ∀ w w', F w → Below w.heap.size w w' → F w'

/-- what an operation of the chain hands back, and what holds behind it -/
structure Lk where
  α : Type
  ne : Nonempty α
  val : α → Value
  R : α → World → Prop
def Lk.upon (k : Lk) (P : Program) (B : Nat) (w : World) : Result Next → Prop
  | .ok (.value v) w' => ∃ x, v = k.val x ∧ k.R x w' ∧ Below B w w'
  | .ok (.enter f args) w1 => w1 = w ∧ Calls P f args w fun e w' => ∃ x, e = .returned (k.val x) ∧ k.R x w' ∧ Below B w w'
  | _ => False
structure Lk.at (k : Lk) (P : Program) (o : Oper) (a : Act) (W : World) (G : World → Prop) : Prop where
  kept : ∀ x, KeptC (k.R x)
  run : ∀ n : In W, G n.w → k.upon P W.heap.size n.w ((execOp a.eval o).run P n.w)
theorem Lk.at.same {k : Lk} {o : Oper} {a a' : Act} {G : World → Prop} (he : execOp a'.eval o = execOp a.eval o) (h : k.at P o a W G) : k.at P o a' W G := ⟨h.kept, fun n hn => by rw [he]; exact h.run n hn⟩

structure HeldC (W : World) (G : World → Prop) (w : World) : Prop where
  below : Below W.heap.size W w
  fact : G w
  kept : KeptC G

def qOp (P : Program) (ops : Array Oper) (W : World) (N : Nat → Option Lk) (j : Nat) (K : Act → (World → Prop) → Prop) (a : Act) (G : World → Prop) : Prop :=
  match ops[j]? with
  | none => K a G
  | some o =>
    match N j with
    | none => if Region.wanted o (yielded ops a.tmps) then ∃ v, calmAt P o a W v ∧ K (a.put o.dst v) G else K (a.put o.dst undef) G
    | some k => Region.wanted o (yielded ops a.tmps) = true ∧ k.at P o a W G ∧ ∀ x, K (a.put o.dst (k.val x)) (k.R x)

variable {N : Nat → Option Lk}

theorem qOp_mono {j : Nat} {K K' : Act → (World → Prop) → Prop} {a : Act} {G : World → Prop} (h : ∀ a G, K a G → K' a G) (hh : qOp P ops W N j K a G) : qOp P ops W N j K' a G := by
  unfold qOp at *
  cases ho : ops[j]? with
  | none => simp only [ho] at hh; exact h _ _ hh
  | some o =>
    simp only [ho] at hh ⊢
    cases hn : N j with
    | none =>
      simp only [hn] at hh ⊢
      split
      · rename_i hw; simp only [hw, if_true] at hh; exact hh.imp fun v hv => ⟨hv.1, h _ _ hv.2⟩
      · rename_i hw; simp only [hw] at hh; exact h _ _ hh
    | some k =>
      simp only [hn] at hh ⊢
      exact ⟨hh.1, hh.2.1, fun x => h _ _ (hh.2.2 x)⟩

/-- What it is for a run. -/
theorem wpOp_of_qOp {i : Nat} {a : Act} {G : World → Prop} {w : World} {K : Act → (World → Prop) → Prop} {K' : Act → World → Prop} {Q : Exit → Act → World → Prop} (hz : HeldC W G w)
    (h : ∀ a G w, HeldC W G w → K a G → K' a w) (hh : qOp P ops W N i K a G) : wpOp P ops Q i K' a w := by
  obtain ⟨hw, hf, hk⟩ := hz
  unfold qOp at hh
  unfold wpOp
  cases ho : ops[i]? with
  | none => simp only [ho] at hh; exact h _ _ _ ⟨hw, hf, hk⟩ hh
  | some o =>
    simp only [ho] at hh ⊢
    cases hn : N i with
    | none =>
      simp only [hn] at hh
      split
      · rename_i hwant
        simp only [hwant, if_true] at hh
        obtain ⟨v, hv, hK⟩ := hh
        refine .inl ?_
        have h3 := hv ⟨w, hw⟩
        unfold Oper.wp
        simp only at h3
        generalize (execOp a.eval o).run P w = r at *
        cases r with
        | ok n w' =>
          cases n <;> simp only [Oper.quietUpon] at h3 <;> simp only [Oper.upon]
          case value u =>
            obtain ⟨e1, e2⟩ := h3
            rw [e1, e2]
            exact h _ _ _ ⟨hw, hf, hk⟩ hK
          case skip =>
            obtain ⟨e1, e2⟩ := h3
            rw [e1, ← e2]
            exact h _ _ _ ⟨hw, hf, hk⟩ hK
          case enter f args =>
            obtain ⟨e1, hc⟩ := h3
            rw [e1]
            refine hc.mono fun e w'' ⟨he, n, hn⟩ => ?_
            subst he
            subst hn
            exact h _ _ _ ⟨hw.trans (n.h.mono hw.size), hk _ _ hf n.h, hk⟩ hK
        | halt x w' => simp only [Oper.quietUpon] at h3
      · rename_i hwant
        simp only [hwant] at hh
        exact h _ _ _ ⟨hw, hf, hk⟩ hh
    | some k =>
      simp only [hn] at hh
      obtain ⟨hwant, hat, hK⟩ := hh
      rw [if_pos hwant]
      refine .inl ?_
      have h3 := hat.run ⟨w, hw⟩ hf
      unfold Oper.wp
      simp only at h3
      generalize (execOp a.eval o).run P w = r at *
      cases r with
      | ok n w' =>
        cases n <;> simp only [Lk.upon] at h3
        case value u =>
          obtain ⟨x, rfl, hr, hb⟩ := h3
          simp only [Oper.upon]
          exact h _ _ _ ⟨hw.trans hb, hr, hat.kept x⟩ (hK x)
        case enter f args =>
          obtain ⟨e1, hc⟩ := h3
          subst e1
          simp only [Oper.upon]
          refine hc.mono fun e w'' ⟨x, he, hr, hb⟩ => ?_
          subst he
          exact h _ _ _ ⟨hw.trans hb, hr, hat.kept x⟩ (hK x)
      | halt x w' => simp only [Lk.upon] at h3

/-- The head, in whatever order, till L. -/
def anyQ (P : Program) (md : Region.Mode) (ops : Array Oper) (W : World) (N : Nat → Option Lk) (n : Nat) (L : Array Bool → Act → (World → Prop) → Prop) : Nat → Array Bool → Act → (World → Prop) → Prop
  | 0, listed, a, G => L listed a G
  | f + 1, listed, a, G =>
    Region.ready md ops listed ≠ [] ∧ ∀ i ∈ Region.ready md ops listed, i < n ∧ qOp P ops W N i (anyQ P md ops W N n L f (listed.setIfInBounds i true)) a G

theorem wpAny_of_anyQ {n g : Nat} {L : Array Bool → Act → (World → Prop) → Prop} {Q : Exit → Act → World → Prop} (hL : ∀ listed a G w, HeldC W G w → L listed a G → wpAny P md ops Q g listed a w) :
    ∀ (f : Nat) (listed : Array Bool) (a : Act) (G : World → Prop) (w : World), HeldC W G w → anyQ P md ops W N n L f listed a G → wpAny P md ops Q (f + g) listed a w
  | 0, listed, a, G, w, hw, h => by rw [Nat.zero_add]; exact hL _ _ _ _ hw h
  | f + 1, listed, a, G, w, hw, h => by
    rw [show f + 1 + g = (f + g) + 1 by omega]
    exact ⟨fun h0 => absurd h0 h.1, fun i hi => wpOp_of_qOp hw (fun a' G' w' hw' h' => wpAny_of_anyQ hL f _ a' G' w' hw' h') (h.2 i hi).2⟩

theorem qOp_put_calm {j : Nat} {oi oj : Oper} {v : Value} (hj : ops[j]? = some oj) (hap : oi.apart ops oj = true)
    (hsi : ∀ cs b, oi.op ≠ .select cs b) (hsj : ∀ cs b, oj.op ≠ .select cs b) {K : Act → (World → Prop) → Prop} {a : Act} {G : World → Prop}
    (hy : CalmY P ops W oi v a) (h : qOp P ops W N j K (a.put oi.dst v) G) :
    qOp P ops W N j (fun a' G' => CalmY P ops W oi v a' ∧ K (a'.put oi.dst v) G') a G := by
  obtain ⟨h1, h2, h3⟩ := Oper.apart_spec hap
  unfold qOp at *
  simp only [hj] at *
  cases hn : N j with
  | none =>
    simp only [hn] at h ⊢
    rw [wanted_put oj a oi.dst v h1] at h
    split
    · rename_i hw
      simp only [hw, if_true] at h
      obtain ⟨u, hu, hK⟩ := h
      exact ⟨u, calmAt_same (execOp_put oj hsj a oi.dst v h1).symm hu, hy.put h3 hsi u, by rw [← Act.put_comm a v u h2]; exact hK⟩
    · rename_i hw
      simp only [hw] at h
      exact ⟨hy.put h3 hsi _, by rw [← Act.put_comm a v undef h2]; exact h⟩
  | some k =>
    simp only [hn] at h ⊢
    obtain ⟨hw, hs, hK⟩ := h
    exact ⟨by rw [← wanted_put oj a oi.dst v h1]; exact hw, hs.same (execOp_put oj hsj a oi.dst v h1).symm,
      fun x => ⟨hy.put h3 hsi _, by rw [← Act.put_comm a v _ h2]; exact hK x⟩⟩

theorem CalmY.qOp {i : Nat} {o : Oper} {v : Value} {a : Act} {G : World → Prop} (hi : ops[i]? = some o) (hn : N i = none) (hy : CalmY P ops W o v a) {K : Act → (World → Prop) → Prop} (h : K (a.put o.dst v) G) : qOp P ops W N i K a G := by
  unfold Go.Proofs.Ythchkhgimnchcaa.qOp
  simp only [hi, hn]
  rcases hy with ⟨hw, hv⟩ | ⟨hw, rfl⟩
  · simp only [hw, if_true]; exact ⟨v, hv, h⟩
  · simp only [hw, Bool.false_eq_true, if_false]; exact h

theorem anyQ_first {n i : Nat} {oi : Oper} {v : Value} {L : Array Bool → Act → (World → Prop) → Prop} (hi : ops[i]? = some oi) (hN : N i = none) (hsel : ∀ (j : Nat) (o : Oper) cs b, ops[j]? = some o → o.op ≠ .select cs b)
    (hh : HeadFirst md ops n) (hin : i < n) (hdone : ∀ listed a G, L listed a G → ∀ j ∈ Region.ready md ops listed, n ≤ j) :
    ∀ (f : Nat) (listed : Array Bool) (a : Act) (G : World → Prop), HeadInv md ops n listed →
      (∀ j oj, ops[j]? = some oj → j ≠ i → listed.getD j true = false → (∀ e ∈ oj.after, Region.binds md e = true → e.on ≠ i) → oi.apart ops oj = true) →
      i ∈ Region.ready md ops listed → CalmY P ops W oi v a →
      anyQ P md ops W N n L f (listed.setIfInBounds i true) (a.put oi.dst v) G → anyQ P md ops W N n L (f + 1) listed a G := by
  intro f
  induction f with
  | zero =>
    intro listed a G inv _ hr hy H
    have hun := (mem_ready.1 hr).1
    refine ⟨fun h => (by rw [h] at hr; cases hr), fun j hj => ?_⟩
    refine ⟨hh.lt inv hin hun hj, ?_⟩
    by_cases hji : j = i
    · subst hji; exact hy.qOp hi hN H
    · have := hdone _ _ _ H j (ready_mono hj hji)
      have := hh.lt inv hin hun hj
      omega
  | succ f ih =>
    intro listed a G inv hfree hr hy H
    have hun := (mem_ready.1 hr).1
    refine ⟨fun h => (by rw [h] at hr; cases hr), fun j hj => ?_⟩
    have hjn := hh.lt inv hin hun hj
    refine ⟨hjn, ?_⟩
    by_cases hji : j = i
    · subst hji; exact hy.qOp hi hN H
    · have h1 := (H.2 j (ready_mono hj hji)).2
      obtain ⟨hjun, oj, hoj, hall⟩ := mem_ready.1 hj
      have h2 := qOp_put_calm hoj (hfree j oj hoj hji hjun (not_after (j := j) hun hall rfl rfl)) (fun cs b => hsel i oi cs b hi) (fun cs b => hsel j oj cs b hoj) hy h1
      have hfree' : ∀ k ok, ops[k]? = some ok → k ≠ i → (listed.setIfInBounds j true).getD k true = false →
          (∀ e ∈ ok.after, Region.binds md e = true → e.on ≠ i) → oi.apart ops ok = true := fun k ok hk hki hun' hno => by
        refine hfree k ok hk hki ?_ hno
        by_cases hjk : j = k
        · subst hjk; exact hjun
        · rw [getD_set_ne true hjk] at hun'; exact hun'
      refine qOp_mono (fun a' G' h3 => ih (listed.setIfInBounds j true) a' G' (inv.set hj hjn) hfree' (ready_mono hr (Ne.symm hji)) h3.1 ?_) h2
      rw [Array.setIfInBounds_comm _ _ hji]
      exact h3.2

/-! ### The chain -/
/-- j waits for i -/
def beforeB (md : Region.Mode) (ops : Array Oper) : Nat → Nat → Nat → Bool
  | 0, _, _ => false
  | f + 1, i, j => match ops[j]? with
    | none => false
    | some oj => oj.after.any fun e => Region.binds md e && (e.on == i || beforeB md ops f i e.on)
theorem beforeB_edge {f i j : Nat} {oj : Oper} (hj : ops[j]? = some oj) (h : beforeB md ops (f + 1) i j = true) : ∃ e ∈ oj.after, Region.binds md e = true ∧ (e.on = i ∨ beforeB md ops f i e.on = true) := by
  unfold beforeB at h
  simp only [hj] at h
  obtain ⟨e, he, hb⟩ := Array.any_eq_true'.1 h
  simp only [Bool.and_eq_true, Bool.or_eq_true, beq_iff_eq] at hb
  exact ⟨e, he, hb⟩
theorem beforeB_listed {n i : Nat} {listed : Array Bool} (inv : HeadInv md ops n listed) : ∀ (f j : Nat), beforeB md ops f i j = true → listed.getD j false = true → listed.getD i false = true
  | 0, _, h, _ => by unfold beforeB at h; cases h
  | f + 1, j, h, hl => by
    cases hj : ops[j]? with
    | none => unfold beforeB at h; simp only [hj] at h; cases h
    | some oj =>
      obtain ⟨e, he, hb, h1⟩ := beforeB_edge hj h
      have h2 := inv.closed j oj hj hl e he hb
      rcases h1 with rfl | h1
      · exact h2
      · exact beforeB_listed inv f _ h1 h2
theorem beforeB_not {n f i j : Nat} {listed : Array Bool} (inv : HeadInv md ops n listed) (hb : beforeB md ops f i j = true) (hi : i ∈ Region.ready md ops listed) (hj : j ∈ Region.ready md ops listed) : False := by
  have hun := getD_both (mem_ready.1 hi).1
  obtain ⟨_, oj, hoj, hall⟩ := mem_ready.1 hj
  cases f with
  | zero => unfold beforeB at hb; cases hb
  | succ f =>
    obtain ⟨e, he, hbd, h1⟩ := beforeB_edge hoj hb
    have h2 := hall e he hbd
    rcases h1 with rfl | h1
    · rw [hun] at h2; cases h2
    · have := beforeB_listed inv f _ h1 h2
      rw [hun] at this; cases this
/-- of two of them one waits for the other -/
def chainOf (md : Region.Mode) (ops : Array Oper) (l : List Nat) : Bool := l.all fun i => l.all fun j => i == j || beforeB md ops ops.size i j || beforeB md ops ops.size j i
theorem chainOf_not {l : List Nat} (h : chainOf md ops l = true) {n i j : Nat} {listed : Array Bool} (inv : HeadInv md ops n listed) (hi : i ∈ l) (hj : j ∈ l) (hne : j ≠ i) (h1 : i ∈ Region.ready md ops listed) (h2 : j ∈ Region.ready md ops listed) : False := by
  unfold chainOf at h
  have h3 := List.all_eq_true.1 (List.all_eq_true.1 h i hi) j hj
  simp only [Bool.or_eq_true, beq_iff_eq] at h3
  rcases h3 with (h3 | h3) | h3
  · exact hne h3.symm
  · exact beforeB_not inv h3 h1 h2
  · exact beforeB_not inv h3 h2 h1

theorem qOp_put_own {j : Nat} {k : Lk} {oi oj : Oper} (hj : ops[j]? = some oj) (hNj : N j = none) (hap : oi.apart ops oj = true)
    (hsi : ∀ cs b, oi.op ≠ .select cs b) (hsj : ∀ cs b, oj.op ≠ .select cs b) {K : Act → (World → Prop) → Prop} {a : Act} {G : World → Prop}
    (hwi : Region.wanted oi (yielded ops a.tmps) = true) (hy : k.at P oi a W G) (h : ∀ x, qOp P ops W N j K (a.put oi.dst (k.val x)) (k.R x)) :
    qOp P ops W N j (fun a' G' => Region.wanted oi (yielded ops a'.tmps) = true ∧ k.at P oi a' W G' ∧ ∀ x, K (a'.put oi.dst (k.val x)) (k.R x)) a G := by
  obtain ⟨h1, h2, h3⟩ := Oper.apart_spec hap
  obtain ⟨x0⟩ := k.ne
  unfold qOp at *
  simp only [hj, hNj] at *
  split
  · rename_i hw
    have h' : ∀ x, ∃ u, calmAt P oj a W u ∧ K ((a.put oi.dst (k.val x)).put oj.dst u) (k.R x) := fun x => by
      have h5 := h x
      rw [wanted_put oj a oi.dst _ h1] at h5
      simp only [hw, if_true] at h5
      obtain ⟨u, hu, hK⟩ := h5
      exact ⟨u, calmAt_same (execOp_put oj hsj a oi.dst _ h1).symm hu, hK⟩
    obtain ⟨u, hu, _⟩ := h' x0
    refine ⟨u, hu, by rw [wanted_put oi a oj.dst _ h3]; exact hwi, hy.same (execOp_put oi hsi a oj.dst _ h3), fun x => ?_⟩
    obtain ⟨u', hu', hK⟩ := h' x
    have e : u' = u := upon_unique (hu' (In.self W)) (hu (In.self W))
    subst e
    rw [← Act.put_comm a _ _ h2]
    exact hK
  · rename_i hw
    refine ⟨by rw [wanted_put oi a oj.dst _ h3]; exact hwi, hy.same (execOp_put oi hsi a oj.dst _ h3), fun x => ?_⟩
    have h5 := h x
    rw [wanted_put oj a oi.dst _ h1] at h5
    simp only [hw] at h5
    rw [← Act.put_comm a _ _ h2]
    exact h5

theorem anyQ_own {n i : Nat} {k : Lk} {oi : Oper} {L : Array Bool → Act → (World → Prop) → Prop} (hi : ops[i]? = some oi) (hN : N i = some k) (hsel : ∀ (j : Nat) (o : Oper) cs b, ops[j]? = some o → o.op ≠ .select cs b)
    (hch : ∀ listed, HeadInv md ops n listed → i ∈ Region.ready md ops listed → ∀ j ∈ Region.ready md ops listed, j ≠ i → N j = none)
    (hh : HeadFirst md ops n) (hin : i < n) (hdone : ∀ listed a G, L listed a G → ∀ j ∈ Region.ready md ops listed, n ≤ j) :
    ∀ (f : Nat) (listed : Array Bool) (a : Act) (G : World → Prop), HeadInv md ops n listed →
      (∀ j oj, ops[j]? = some oj → j ≠ i → listed.getD j true = false → (∀ e ∈ oj.after, Region.binds md e = true → e.on ≠ i) → oi.apart ops oj = true) →
      i ∈ Region.ready md ops listed → Region.wanted oi (yielded ops a.tmps) = true → k.at P oi a W G →
      (∀ x, anyQ P md ops W N n L f (listed.setIfInBounds i true) (a.put oi.dst (k.val x)) (k.R x)) → anyQ P md ops W N n L (f + 1) listed a G := by
  have direct : ∀ {K : Act → (World → Prop) → Prop} {a : Act} {G : World → Prop}, Region.wanted oi (yielded ops a.tmps) = true → k.at P oi a W G → (∀ x, K (a.put oi.dst (k.val x)) (k.R x)) → qOp P ops W N i K a G := by
    intro K a G h1 h2 h3
    unfold qOp
    simp only [hi, hN]
    exact ⟨h1, h2, h3⟩
  obtain ⟨x0⟩ := k.ne
  intro f
  induction f with
  | zero =>
    intro listed a G inv _ hr hwi hy H
    have hun := (mem_ready.1 hr).1
    refine ⟨fun h => (by rw [h] at hr; cases hr), fun j hj => ?_⟩
    refine ⟨hh.lt inv hin hun hj, ?_⟩
    by_cases hji : j = i
    · subst hji; exact direct hwi hy H
    · have := hdone _ _ _ (H x0) j (ready_mono hj hji)
      have := hh.lt inv hin hun hj
      omega
  | succ f ih =>
    intro listed a G inv hfree hr hwi hy H
    have hun := (mem_ready.1 hr).1
    refine ⟨fun h => (by rw [h] at hr; cases hr), fun j hj => ?_⟩
    have hjn := hh.lt inv hin hun hj
    refine ⟨hjn, ?_⟩
    by_cases hji : j = i
    · subst hji; exact direct hwi hy H
    · obtain ⟨hjun, oj, hoj, hall⟩ := mem_ready.1 hj
      have h2 := qOp_put_own (N := N) (k := k) hoj (hch listed inv hr j hj hji) (hfree j oj hoj hji hjun (not_after (j := j) hun hall rfl rfl)) (fun cs b => hsel i oi cs b hi) (fun cs b => hsel j oj cs b hoj) hwi hy
        (fun x => ((H x).2 j (ready_mono hj hji)).2)
      have hset : ∀ k, (listed.setIfInBounds j true).getD k true = false → listed.getD k true = false := fun k hk => by
        by_cases hjk : j = k
        · subst hjk; exact hjun
        · rw [getD_set_ne true hjk] at hk; exact hk
      refine qOp_mono (fun a' G' h3 => ih (listed.setIfInBounds j true) a' G' (inv.set hj hjn) (fun k ok hk hki hun' hno => hfree k ok hk hki (hset k hun') hno)
        (ready_mono hr (Ne.symm hji)) h3.1 h3.2.1 (fun x => ?_)) h2
      rw [Array.setIfInBounds_comm _ _ hji]
      exact h3.2.2 x

/-! ### The text's order -/
def wpKq (P : Program) (ops : Array Oper) (W : World) (Q : Act → (World → Prop) → Prop) : List (Option Lk) → List Oper → Act → (World → Prop) → Prop
  | [], [], a, G => Q a G
  | none :: ks, o :: l, a, G => if Region.wanted o (yielded ops a.tmps) then ∃ v, calmAt P o a W v ∧ wpKq P ops W Q ks l (a.put o.dst v) G else wpKq P ops W Q ks l (a.put o.dst undef) G
  | some k :: ks, o :: l, a, G => Region.wanted o (yielded ops a.tmps) = true ∧ k.at P o a W G ∧ ∀ x, wpKq P ops W Q ks l (a.put o.dst (k.val x)) (k.R x)
  | _, _, _, _ => False

theorem anyQ_of_K {n g : Nat} {Lq : Act → (World → Prop) → Prop} (hsel : Region.noSelect ops = true) (hh : HeadFirst md ops n) (hle : n ≤ ops.size) (inds : List Nat) (hinds : ∀ j k, N j = some k → j ∈ inds) (hch : chainOf md ops inds = true) :
    ∀ (ks : List (Option Lk)) (l : List Oper) (k : Nat) (listed : Array Bool) (a : Act) (G : World → Prop), (∀ j, j < l.length → l[j]? = ops[k + j]?) → (∀ j kd, ks[j]? = some kd → N (k + j) = kd) → k + l.length = n →
    (∀ j, j < k → listed.getD j true = true) → HeadInv md ops n listed →
    Region.lexHead md ops g l.length k listed = true → wpKq P ops W Lq ks l a G →
    anyQ P md ops W N n (fun listed' a' G' => Region.seqB md ops g n listed' = true ∧ Lq a' G') l.length listed a G
  | [], [], k, listed, a, G, hl, hs, hk, hdone, inv, hB, h => by
    have : k = n := by simpa using hk
    subst this
    exact ⟨by simpa [Region.lexHead] using hB, h⟩
  | [], _ :: _, _, _, _, _, _, _, _, _, _, _, h => by unfold wpKq at h; exact h.elim
  | none :: _, [], _, _, _, _, _, _, _, _, _, _, h => by unfold wpKq at h; exact h.elim
  | some _ :: _, [], _, _, _, _, _, _, _, _, _, _, h => by unfold wpKq at h; exact h.elim
  | kd :: ks, o :: l, k, listed, a, G, hl, hs, hk, hdone, inv, hB, h => by
    have h0 : ops[k]? = some o := by simpa using (hl 0 (by simp)).symm
    have hkn : k < n := by simp only [List.length_cons] at hk; omega
    have hNk : N k = kd := by simpa using hs 0 kd rfl
    simp only [List.length_cons, Region.lexHead, Bool.and_eq_true] at hB
    obtain ⟨⟨hr, hf⟩, hB'⟩ := hB
    have hr' : k ∈ Region.ready md ops listed := by simpa using hr
    have hl' : ∀ j, j < l.length → l[j]? = ops[k + 1 + j]? := fun j hj => by have := hl (j + 1) (by simp; omega); simpa [Nat.add_assoc, Nat.add_comm 1 j] using this
    have hs' : ∀ j kd', ks[j]? = some kd' → N (k + 1 + j) = kd' := fun j kd' hj => by have := hs (j + 1) kd' (by simpa using hj); simpa [Nat.add_assoc, Nat.add_comm 1 j] using this
    have hk' : k + 1 + l.length = n := by simp only [List.length_cons] at hk; omega
    have hdone' : ∀ j, j < k + 1 → (listed.setIfInBounds k true).getD j true = true := by
      intro j hj
      by_cases hjk : k = j
      · subst hjk
        have : k < listed.size := by rw [inv.size]; omega
        simp [this]
      · rw [getD_set_ne true hjk]; exact hdone j (by omega)
    cases kd with
    | none =>
      unfold wpKq at h
      obtain ⟨v, hy, hK⟩ : ∃ v, CalmY P ops W o v a ∧ wpKq P ops W Lq ks l (a.put o.dst v) G := by
        by_cases hw : Region.wanted o (yielded ops a.tmps) = true
        · simp only [hw, if_true] at h
          obtain ⟨v, hv, hK⟩ := h
          exact ⟨v, .inl ⟨hw, hv⟩, hK⟩
        · simp only [hw] at h
          exact ⟨undef, .inr ⟨by simpa using hw, rfl⟩, h⟩
      refine anyQ_first h0 hNk (Region.noSelect_spec hsel) hh hkn (fun listed' a' G' hL => seqB_ready hL.1) l.length listed a G inv (Region.free_spec h0 hf) hr' hy ?_
      exact anyQ_of_K hsel hh hle inds hinds hch ks l (k + 1) _ _ _ hl' hs' hk' hdone' (inv.set hr' hkn) hB' hK
    | some kk =>
      unfold wpKq at h
      obtain ⟨hw, hp, hrest⟩ := h
      refine anyQ_own h0 hNk (Region.noSelect_spec hsel) (fun listed' inv' h1 j hj hne => ?_) hh hkn (fun listed' a' G' hL => seqB_ready hL.1) l.length listed a G inv (Region.free_spec h0 hf) hr' hw hp (fun x => ?_)
      · cases hNj : N j with
        | none => rfl
        | some kj => exact (chainOf_not hch inv' (hinds k kk hNk) (hinds j kj hNj) hne h1 hj).elim
      · exact anyQ_of_K hsel hh hle inds hinds hch ks l (k + 1) _ _ _ hl' hs' hk' hdone' (inv.set hr' hkn) hB' (hrest x)

/-- how a head is told: k operations that read or call; or one of the chain -/
inductive Sq
  | calm (k : Nat)
  | own (k : Lk)
def kindsQ : List Sq → List (Option Lk)
  | [] => []
  | .calm k :: ss => List.replicate k none ++ kindsQ ss
  | .own k :: ss => some k :: kindsQ ss
def placesQ : Nat → List Sq → List Nat
  | _, [] => []
  | i, .calm k :: ss => placesQ (i + k) ss
  | i, .own _ :: ss => i :: placesQ (i + 1) ss
theorem placesQ_mem : ∀ (ss : List Sq) (i j : Nat) (k : Lk), (kindsQ ss)[j]? = some (some k) → i + j ∈ placesQ i ss
  | [], _, _, _, h => by simp [kindsQ] at h
  | .calm m :: ss, i, j, k, h => by
    unfold kindsQ at h
    unfold placesQ
    by_cases hj : j < m
    · rw [List.getElem?_append_left (by simpa using hj)] at h
      simp [hj] at h
    · rw [List.getElem?_append_right (by simpa using hj)] at h
      have := placesQ_mem ss (i + m) (j - m) k (by simpa using h)
      rwa [show i + m + (j - m) = i + j by omega] at this
  | .own m :: ss, i, 0, k, h => by unfold placesQ; exact List.mem_cons_self
  | .own m :: ss, i, j + 1, k, h => by
    unfold kindsQ at h
    unfold placesQ
    have := placesQ_mem ss (i + 1) j k (by simpa using h)
    rw [show i + 1 + j = i + (j + 1) by omega] at this
    exact List.mem_cons_of_mem _ this
def wpMq (P : Program) (ops : Array Oper) (W : World) (Q : Act → (World → Prop) → Prop) : List Sq → List Oper → Act → (World → Prop) → Prop
  | [], l, a, G => l = [] ∧ Q a G
  | .calm k :: ss, l, a, G => k ≤ l.length ∧ ∀ M : In W, wpQuiet P ops (fun w' => ∃ n : In M.w, w' = n.w) (fun a' => wpMq P ops W Q ss (l.drop k) a' G) (l.take k) a
  | .own k :: ss, l, a, G =>
    match l with
    | [] => False
    | o :: l => Region.wanted o (yielded ops a.tmps) = true ∧ k.at P o a W G ∧ ∀ x, ∀ a', a' = a.put o.dst (k.val x) → wpMq P ops W Q ss l a' (k.R x)
theorem wpKq_of_calm {Q : Act → (World → Prop) → Prop} (ks : List (Option Lk)) : ∀ (l l2 : List Oper) (a : Act) (G : World → Prop), wpCalm P ops W (fun a' => wpKq P ops W Q ks l2 a' G) l a → wpKq P ops W Q (List.replicate l.length none ++ ks) (l ++ l2) a G
  | [], l2, a, G, h => by simpa [wpCalm] using h
  | o :: l, l2, a, G, h => by
    rw [List.length_cons, List.replicate_succ, List.cons_append, List.cons_append]
    unfold wpKq
    unfold wpCalm at h
    split
    · rename_i hw
      simp only [hw, if_true] at h
      exact h.imp fun v hv => ⟨hv.1, wpKq_of_calm ks l l2 _ _ hv.2⟩
    · rename_i hw
      simp only [hw] at h
      exact wpKq_of_calm ks l l2 _ _ h
theorem wpKq_of_mix {Q : Act → (World → Prop) → Prop} : ∀ (ss : List Sq) (l : List Oper) (a : Act) (G : World → Prop), wpMq P ops W Q ss l a G → wpKq P ops W Q (kindsQ ss) l a G
  | [], l, a, G, h => by
    obtain ⟨rfl, h⟩ := h
    unfold kindsQ wpKq
    exact h
  | .calm k :: ss, l, a, G, h => by
    obtain ⟨hk, h⟩ := h
    have h2 := wpCalm_of_quiet (P := P) (ops := ops) (W := W) _ _ h
    have h3 : wpCalm P ops W (fun a' => wpKq P ops W Q (kindsQ ss) (l.drop k) a' G) (l.take k) a := by
      have mono : ∀ (l : List Oper) (a : Act) {Q1 Q2 : Act → Prop}, (∀ a, Q1 a → Q2 a) → wpCalm P ops W Q1 l a → wpCalm P ops W Q2 l a := by
        intro l
        induction l with
        | nil => intro a Q1 Q2 hq h; exact hq _ h
        | cons o l ih =>
          intro a Q1 Q2 hq h
          unfold wpCalm at h ⊢
          split
          · rename_i hw
            simp only [hw, if_true] at h
            exact h.imp fun v hv => ⟨hv.1, ih _ hq hv.2⟩
          · rename_i hw
            simp only [hw] at h
            exact ih _ hq h
      exact mono _ _ (fun a' ha' => wpKq_of_mix ss _ a' G ha') h2
    have h4 := wpKq_of_calm (kindsQ ss) (l.take k) (l.drop k) a G h3
    rw [List.take_append_drop, List.length_take, Nat.min_eq_left hk] at h4
    exact h4
  | .own k :: ss, [], a, G, h => by unfold wpMq at h; exact h.elim
  | .own k :: ss, o :: l, a, G, h => by
    unfold wpMq at h
    unfold kindsQ wpKq
    exact ⟨h.1, h.2.1, fun x => wpKq_of_mix ss l _ _ (h.2.2 x _ rfl)⟩

/-- THE LAW. -/
theorem wp_region_chain {id : Nat} {Q : Exit → Act → World → Prop} {a : Act} {l : List Oper} (n : Nat) (segs : List Sq) (inds : List Nat) (hp : placesQ 0 segs = inds) (hm : P.follows .mixedOrders = true)
    (hle : n ≤ l.length) (hB : calmB .any l.toArray n = true) (hC : chainOf .any l.toArray inds = true)
    (h : wpMq P l.toArray W (fun a'' G => ∀ w', Below W.heap.size W w' → G w' → wpList P l.toArray Q (l.drop n) a'' w') segs (l.take n) a (fun _ => True)) :
    (Code.region id l.toArray true).wp P Q a W := by
  unfold calmB at hB
  simp only [Bool.and_eq_true, Bool.or_eq_true, beq_iff_eq, decide_eq_true_eq] at hB
  obtain ⟨⟨hsel, hh0⟩, hlex⟩ := hB
  have hh : HeadFirst .any l.toArray n := hh0.imp (fun x => x) fun x => ⟨x.1.2, x.2, x.1.1⟩
  have hsz : l.toArray.size = l.length := by simp
  have htl : (l.take n).length = n := by simp; omega
  have inv0 : HeadInv .any l.toArray n (Array.replicate l.toArray.size false) :=
    ⟨by simp, fun j oj _ hl => (by rw [getD_replicate_false] at hl; cases hl), fun t _ ht => getD_in (by simpa using ht) (getD_replicate_false _ _)⟩
  have H := anyQ_of_K (P := P) (W := W) (md := .any) (N := fun j => ((kindsQ segs)[j]?).getD none) (g := l.toArray.size - n) hsel hh (by simpa using hle) inds
    (fun j k hj => by
      rw [← hp]
      cases hk : (kindsQ segs)[j]? with
      | none => simp [hk] at hj
      | some kd =>
        simp [hk] at hj
        subst hj
        simpa using placesQ_mem segs 0 j k hk) hC (kindsQ segs) (l.take n) 0 _ a (fun _ => True)
    (fun j hj => by
      rw [htl] at hj
      simp [hj]) (fun j kd hj => by simp [hj]) (by omega) (fun j hj => by omega) inv0 (by rw [htl]; exact hlex) (wpKq_of_mix _ _ _ _ h)
  refine wp_region_any hm ?_
  have h6 := wpAny_of_anyQ (Q := Q) (g := l.toArray.size - n) (fun listed a' G w' hw' hL => by
    have hdl : (l.drop n).length = l.toArray.size - n := by simp
    have := wpAny_of_seq (P := P) (md := .any) (Q' := Q) (l.drop n) n listed a' w' (fun j => by simp [List.getElem?_drop]) (by rw [hdl]; exact hL.1) (hL.2 w' hw'.below hw'.fact)
    rwa [hdl] at this) _ _ _ _ W.drew ⟨(Below.refl _ _).drew, trivial, fun _ _ _ _ => trivial⟩ H
  rw [htl, show n + (l.toArray.size - n) = l.toArray.size by omega] at h6
  exact h6
end
end Go.Proofs.Ythchkhgimnchcaa
/- Lists of one's own that a region gathers by appends in a chain. -/
namespace Go.Proofs.Ythchkhgimnchcaa
open Go.RowKit

/-- a list of n things in memory that is not older than W -/
def Lk.list {α : Type} (B : Nat) (K : Nat) (cs : α → List Value) (n : Nat) (l : List α) : Lk :=
  ⟨Option Addr × Nat, ⟨(none, 0)⟩, fun x => .slice x.1 n x.2, fun x w => OwnO w K cs (.slice x.1 n x.2) l ∧ ∀ g, (Value.slice x.1 n x.2).ownBlock = some g → B ≤ g⟩
theorem Lk.list_kept {α : Type} {B : Nat} {K n : Nat} {cs : α → List Value} {l : List α} (x : (Lk.list B K cs n l).α) : KeptC ((Lk.list B K cs n l).R x) := fun _ _ h hb => ⟨h.1.kept hb, h.2⟩
section
variable {P : Program} {o : Oper} {a : Act} {W : World} {G : World → Prop} {α : Type} {K : Nat} {cs : α → List Value}
theorem Lk.at_empty {B : Nat} (hB : W.heap.size = B) {e : TypeId} (he : ∀ n : In W, (execOp a.eval o).run P n.w = .ok (.value (.slice (some ⟨n.w.heap.size, 0, none⟩) 0 0)) (n.w.alloc (.cells #[] e))) : (Lk.list B K cs 0 []).at P o a W G :=
  ⟨Lk.list_kept, fun n _ => by
    subst hB
    rw [he n]
    refine ⟨(some ⟨n.w.heap.size, 0, none⟩, 0), rfl, ⟨.inr ⟨n.w.heap.size, 0, 0, rfl, by simp, Nat.le_refl _, by simp [maxLen], fun j hj => ?_, fun j hj => ?_⟩, fun g hg => ?_⟩, (Below.refl W.heap.size _).alloc n.h.size _⟩
    · simp at hj
    · simp at hj
    · simp [Value.ownBlock] at hg
      have := n.h.size
      omega⟩
theorem Lk.at_append {B : Nat} (hB : W.heap.size = B) (s x : Operand) (t tx : TypeId) (ho : o.op = .call { callee := .builtin .append, args := #[s, x], argTypes := #[t, tx] })
    (hK : ∀ x, (cs x).length = K) (hK0 : 0 < K) (hone : ∀ x, ∀ u ∈ cs x, u.oneCell' = true) (e ex : TypeId) (i : TypeInfo) (z : Value) (ht : P.underlying t = some (.slice e)) (htx : P.underlying tx = some (.slice ex)) (hi : P.info? e = some i) (hz : i.zero = some z) (hsize : i.size = K) (hzs : z.cells.size = K)
    (v : Value) (l : List α) (hs : a.eval s = v) (vx : Value) (m : List α) (hvx : a.eval x = vx) (n : Nat) (hn : n = l.length + m.length) (hlen : l.length + m.length ≤ maxLen) (hbytes : (l.length + m.length) * i.bytes ≤ 140737488355328)
    (hG : ∀ n : In W, G n.w → (OwnO n.w K cs v l ∧ ∀ g, v.ownBlock = some g → B ≤ g) ∧ RowsAt n.w K cs vx m) : (Lk.list B K cs n (l ++ m)).at P o a W G :=
  ⟨Lk.list_kept, fun w hw => by
    subst hn
    subst hB
    obtain ⟨⟨h1, h2⟩, h3⟩ := hG w hw
    obtain ⟨v', w', hrun, h4, h5, h6⟩ := run_append_o (P := P) hK hK0 hone t tx o.type e ex i z ht htx hi hz hsize hzs h1 vx m h3 hlen hbytes
    have he : (execOp a.eval o).run P w.w = .ok (.value v') w' := by
      simp [execOp, ho, resolve, invoke, builtin, hs, hvx, hrun, Result.andThen]
    rw [he]
    obtain ⟨b, c, rfl⟩ := h4.form
    have hb : ∀ g, (Value.slice b (l ++ m).length c).ownBlock = some g → W.heap.size ≤ g := fun g hg => by
      rcases h6 with h6 | h6
      · rw [h6] at hg
        exact h2 g hg
      · rw [h6] at hg
        cases hg
        exact w.h.size
    rw [List.length_append] at h4 hb
    exact ⟨(b, c), by rw [List.length_append]; rfl, ⟨h4, hb⟩, (Below.refl _ _).grown h5 w.h.size h2⟩⟩
/-- a call that hands back a list of new memory -/
theorem Lk.at_call {B : Nat} (hB : W.heap.size = B) {f : FuncId} {args : Array Value} (n : Nat) (l : List α) (hn : n = l.length) (he : ∀ n : In W, (execOp a.eval o).run P n.w = .ok (.enter f args) n.w)
    (hc : ∀ n : In W, Calls P f args n.w fun e w' => ∃ v, e = .returned v ∧ OwnO w' K cs v l ∧ (∀ g, v.ownBlock = some g → n.w.heap.size ≤ g) ∧ Below n.w.heap.size n.w w') : (Lk.list B K cs n l).at P o a W G :=
  ⟨Lk.list_kept, fun n _ => by
    subst hB
    subst hn
    rw [he n]
    refine ⟨rfl, (hc n).mono ?_⟩
    rintro e w' ⟨v, rfl, h1, h2, h3⟩
    obtain ⟨b, c, rfl⟩ := h1.form
    exact ⟨(b, c), rfl, ⟨h1, fun g hg => Nat.le_trans n.h.size (h2 g hg)⟩, h3.mono n.h.size⟩⟩
/-- a value that is settled -/
def Lk.val1 (v : Value) : Lk := ⟨Unit, ⟨()⟩, fun _ => v, fun _ _ => True⟩
theorem Lk.at_val {v : Value} (h : ∀ n : In W, G n.w → (execOp a.eval o).run P n.w = .ok (.value v) n.w) : (Lk.val1 v).at P o a W G :=
  ⟨fun _ _ _ _ _ => trivial, fun n hn => by
    rw [h n hn]
    exact ⟨(), rfl, trivial, Below.refl _ _⟩⟩
end
end Go.Proofs.Ythchkhgimnchcaa
/- Links of a chain (XChain): lists of numbers that a call hands back, answers that are settled. FOR ALL LATER STAGES. -/
namespace Go.Proofs.Ythchkhgimnchcaa
open Go.RowKit

/-- a list of numbers somewhere in memory -/
def lkIL (L : List Int) (n : Nat) : Lk := ⟨Option Addr × Nat, ⟨(none, 0)⟩, fun x => .slice x.1 n x.2, fun x w => IntsAt w (.slice x.1 n x.2) L⟩
theorem lkIL_at {P : Program} {o : Oper} {a : Act} {W : World} {G : World → Prop} {L : List Int} {n : Nat} {f : FuncId} {args : Array Value} (hn : n = L.length) (he : ∀ k : In W, (execOp a.eval o).run P k.w = .ok (.enter f args) k.w)
    (hc : ∀ k : In W, Calls P f args k.w fun e w' => ∃ v, e = .returned v ∧ IntsAt w' v L ∧ Below k.w.heap.size k.w w') : (lkIL L n).at P o a W G :=
  ⟨fun _ _ _ h hb => IntsAt.below h hb, fun k _ => by
    subst hn
    rw [he k]
    refine ⟨rfl, (hc k).mono ?_⟩
    rintro e w' ⟨v, rfl, h1, h2⟩
    obtain ⟨b, c, rfl⟩ := h1.form
    exact ⟨(b, c), rfl, h1, h2.mono k.h.size⟩⟩
/-- a call whose answer is settled, over what the link ahead has left -/
theorem lkSure_at {P : Program} {o : Oper} {a : Act} {W : World} {G : World → Prop} {v : Value} {f : FuncId} {args : Array Value} (he : ∀ k : In W, (execOp a.eval o).run P k.w = .ok (.enter f args) k.w)
    (hc : ∀ k : In W, G k.w → Calls P f args k.w fun e w' => e = .returned v ∧ Below k.w.heap.size k.w w') : (Lk.val1 v).at P o a W G :=
  ⟨fun _ _ _ _ _ => trivial, fun k hk => by
    rw [he k]
    refine ⟨rfl, (hc k hk).mono ?_⟩
    rintro e w' ⟨rfl, hb⟩
    exact ⟨(), rfl, trivial, hb.mono k.h.size⟩⟩
/-- two links, the one ahead of the other: asked one way round only (the other way 'beforeB' goes through every path: a great region then outgrows the kernel's memory) -/
theorem chainOf_two {md : Region.Mode} {ops : Array Oper} {i j : Nat} (h : beforeB md ops ops.size i j = true) : chainOf md ops [i, j] = true := by
  simp [chainOf, h]
end Go.Proofs.Ythchkhgimnchcaa
/- The document's Set (tallymanref16): the numbers of a list, rising, each once. FOR ALL LATER STAGES. (Written by wip/tools/gen_refset.py.) -/
namespace Go.Proofs.Ythchkhgimnchcaa
open Go.RowKit

end Go.Proofs.Ythchkhgimnchcaa
/- Stage 17: the document's Right, Or, And, Less, Above. -/
namespace Go.Proofs.Ythchkhgimnchcaa
open Go.RowKit

end Go.Proofs.Ythchkhgimnchcaa
/- The walks of the document's answers for layer 7: the way. -/
namespace Go.Proofs.Ythchkhgimnchcaa
open Go.RowKit

def lenOf : Value → Nat
  | .slice _ n _ => n
  | _ => 0
theorem OwnP.len {w : World} {B : Nat} {e : TypeId} {v : Value} {l : List (Int × Int)} (h : OwnP w B e v l) : lenOf v = l.length := by
  rcases h.2 with ⟨rfl, h0⟩ | ⟨g, cap, cur, rfl, _⟩
  · simp [lenOf, h0]
  · rfl
theorem OwnP.not {w : World} {B : Nat} {e : TypeId} {v : Value} {l : List (Int × Int)} (h : OwnP w B e v l) {k : Nat} (hk : k < B) : v.ownBlock ≠ some k := by
  rcases h.2 with ⟨rfl, _⟩ | ⟨g, cap, cur, rfl, hg, _⟩
  · simp [Value.ownBlock]
  · simp [Value.ownBlock]
    omega
theorem hset0 {w : World} {b : Nat} {x y : Value} {t : TypeId} (h : w.heap[b]? = some (.cells #[x, y] t)) (x' : Value) : (w.setCell ⟨b, 0, none⟩ x').heap[b]? = some (.cells #[x', y] t) := by
  unfold World.setCell
  simp only [Array.getElem?_modify, if_pos, h, Option.map_some]
  rfl
theorem hset1 {w : World} {b : Nat} {x y : Value} {t : TypeId} (h : w.heap[b]? = some (.cells #[x, y] t)) (y' : Value) : (w.setCell ⟨b, 1, none⟩ y').heap[b]? = some (.cells #[x, y'] t) := by
  unfold World.setCell
  simp only [Array.getElem?_modify, if_pos, h, Option.map_some]
  rfl
theorem hkeep {w : World} {k j : Nat} {o : Obj} (h : w.heap[k]? = some o) (i : Nat) (u : Value) (hne : k ≠ j) : (w.setCell ⟨j, i, none⟩ u).heap[k]? = some o := by
  rw [Below.heap_setCell w ⟨j, i, none⟩ u k hne]
  exact h
theorem halloc {w : World} {k : Nat} {o : Obj} (h : w.heap[k]? = some o) (p : Obj) : (w.alloc p).heap[k]? = some o := (Below.heap_alloc w p k (lt_of_block h)).trans h
theorem gap_bd {a b : Int × Int} (ha : (-1000 ≤ a.1 ∧ a.1 ≤ 1000) ∧ (-1000 ≤ a.2 ∧ a.2 ≤ 1000)) (hb : (-1000 ≤ b.1 ∧ b.1 ≤ 1000) ∧ (-1000 ≤ b.2 ∧ b.2 ≤ 1000)) : gap a b ≤ 4000 := by unfold gap; omega

end Go.Proofs.Ythchkhgimnchcaa
/- The walks of the document's answers for layer 7: a number in a list that rises. -/
namespace Go.Proofs.Ythchkhgimnchcaa
open Go.RowKit

theorem putR_at (n : Int) (l : List Int) (k : Nat) (h : k < l.length) (d : Bool) : putR n (l.drop k) d = (if d = false ∧ n ≤ l[k] then [n] else []) ++ (if l[k] ≠ n then [l[k]] else []) ++ putR n (l.drop (k + 1)) (d || decide (n ≤ l[k])) := by
  rw [List.drop_eq_getElem_cons h]
  rfl

end Go.Proofs.Ythchkhgimnchcaa
/- The walks of the document's answers for layer 7: what a way goes through. -/
namespace Go.Proofs.Ythchkhgimnchcaa
open Go.RowKit

theorem putR_len (n : Int) (l : List Int) : ∀ d, (putR n l d).length ≤ l.length + (if d = true then 0 else 1) := by
  induction l with
  | nil => intro d; cases d <;> simp [putR]
  | cons x l ih =>
    intro d
    unfold putR
    rw [List.length_append, List.length_append]
    have h1 := ih (d || decide (n ≤ x))
    have h2 : (if x ≠ n then [x] else []).length ≤ 1 := by split <;> simp
    have h3 : (if d = false ∧ n ≤ x then [n] else []).length + (if (d || decide (n ≤ x)) = true then 0 else 1) ≤ (if d = true then 0 else 1) := by
      cases d <;> by_cases h : n ≤ x <;> simp [h]
    simp only [List.length_cons]
    omega
theorem crs7_len (hit : Ais → Bool) (l : List Ais) : (crs7 hit l).length ≤ l.length := by
  have key : ∀ k, k ≤ l.length → (crs7 hit (l.take k)).length ≤ k := by
    intro k
    induction k with
    | zero => intro _; simp [crs7]
    | succ k ih =>
      intro hk
      have h0 := ih (by omega)
      rw [crs7_next hit l k (by omega)]
      split
      · have := putR_len (pa l k).id (crs7 hit (l.take k)) false
        simp at this
        omega
      · omega
  have := key l.length (Nat.le_refl _)
  rwa [List.take_length] at this
theorem crs7_len' (hit : Ais → Bool) (l : List Ais) (k : Nat) : (crs7 hit (l.take k)).length ≤ l.length := by
  have := crs7_len hit (l.take k)
  rw [List.length_take] at this
  omega
theorem hit_next (a : Ais) (w : List (Int × Int)) (j : Nat) (h : j < w.length) : hitB (w.take (j + 1)) a = (hitB (w.take j) a || hasB a (pat w j).1 (pat w j).2) := by
  unfold hitB
  rw [List.take_add_one, pat_get w j h]
  simp
theorem hit_front {a : Ais} {w : List (Int × Int)} {j : Nat} (h : hitB (w.take j) a = true) : hitB w a = true := by
  unfold hitB at *
  rw [List.any_eq_true] at *
  obtain ⟨z, h1, h2⟩ := h
  exact ⟨z, List.mem_of_mem_take h1, h2⟩

end Go.Proofs.Ythchkhgimnchcaa
/- The walks of the document's answers for layer 7: aisles moved. -/
namespace Go.Proofs.Ythchkhgimnchcaa
open Go.RowKit

/-- an aisle moved -/
def mvA (n x y : Int) (a : Ais) : Ais :=
  ⟨a.id, min (rmv n x y (a.lx, a.ly)).1 (rmv n x y (a.hx, a.hy)).1, min (rmv n x y (a.lx, a.ly)).2 (rmv n x y (a.hx, a.hy)).2,
    max (rmv n x y (a.lx, a.ly)).1 (rmv n x y (a.hx, a.hy)).1, max (rmv n x y (a.lx, a.ly)).2 (rmv n x y (a.hx, a.hy)).2⟩
theorem take_map_ais (f : Ais → Ais) (l : List Ais) (k : Nat) (h : k < l.length) : (l.take (k + 1)).map f = (l.take k).map f ++ [f (pa l k)] := by
  rw [List.take_succ_eq_append_getElem h, List.map_append, pa_get l k h]
  rfl
theorem OwnR.ltP {α : Type} {w : World} {B : Nat} {e : TypeId} {K : Nat} {cs : α → List Value} {v : Value} {l : List α} (h : OwnR w B e K cs v l) {k : Nat} (hk : w.heap.size ≤ k) : v.ownBlock ≠ some k := by
  rcases h.2 with ⟨rfl, _⟩ | ⟨g, cap, cur, rfl, _, hh, _⟩
  · simp [Value.ownBlock]
  · have := lt_of_block hh
    simp [Value.ownBlock]
    omega
end Go.Proofs.Ythchkhgimnchcaa
/- The walks of the document's answers for layer 7: is it a plan. -/
namespace Go.Proofs.Ythchkhgimnchcaa
open Go.RowKit

end Go.Proofs.Ythchkhgimnchcaa
/- Stage 12: sets of skills as numbers; their lists, signs and texts: plain mathematics. -/
namespace Go.Proofs.Ythchkhgimnchcaa

/-- the skills below k -/
def lsS (w k : Nat) : List Nat := (List.range k).filter fun n => w.testBit n
theorem lsS_succ (w k : Nat) : lsS w (k + 1) = lsS w k ++ (if w.testBit k then [k] else []) := by
  unfold lsS
  rw [List.range_succ, List.filter_append]
  congr 1
  by_cases h : w.testBit k = true
  · simp [h]
  · simp [h]
theorem lsS_len (w k : Nat) : (lsS w k).length ≤ k := by
  have := List.length_filter_le (fun n => w.testBit n) (List.range k)
  rwa [List.length_range] at this
theorem mem_lsS (w k n : Nat) : n ∈ lsS w k ↔ n < k ∧ w.testBit n = true := by simp [lsS]
theorem lsS_pre (w k : Nat) : ∀ j, lsS w k <+: lsS w (k + j)
  | 0 => List.prefix_refl _
  | j + 1 => by
    rw [← Nat.add_assoc, lsS_succ]
    exact (lsS_pre w k j).trans (List.prefix_append _ _)

/-- the number of those of which P tells -/
def ofS (P : Nat → Bool) : Nat → Nat
  | 0 => 0
  | k + 1 => ofS P k + if P k then 2 ^ k else 0
theorem ofS_lt (P : Nat → Bool) : ∀ k, ofS P k < 2 ^ k
  | 0 => by simp [ofS]
  | k + 1 => by
    have := ofS_lt P k
    have e : 2 ^ (k + 1) = 2 ^ k + 2 ^ k := by rw [Nat.pow_succ]; omega
    unfold ofS
    split <;> omega
theorem ofS_congr {P Q : Nat → Bool} : ∀ k, (∀ n, n < k → P n = Q n) → ofS P k = ofS Q k
  | 0, _ => rfl
  | k + 1, h => by
    unfold ofS
    rw [ofS_congr k fun n hn => h n (by omega), h k (by omega)]
theorem ofS_bits (w : Nat) : ∀ k, ofS (fun n => w.testBit n) k = w % 2 ^ k
  | 0 => by simp [ofS, Nat.mod_one]
  | k + 1 => by
    unfold ofS
    rw [ofS_bits w k, Nat.pow_succ, Nat.mod_mul, Nat.testBit_eq_decide_div_mod_eq]
    rcases Nat.mod_two_eq_zero_or_one (w / 2 ^ k) with h | h <;> simp [h]
theorem ofS_list (w : Nat) (hw : w < 2 ^ 64) : ofS (fun n => decide (n ∈ lsS w 64)) 64 = w := by
  rw [ofS_congr (Q := fun n => w.testBit n) 64 (fun n hn => by
    by_cases h : w.testBit n = true
    · rw [h, decide_eq_true ((mem_lsS w 64 n).2 ⟨hn, h⟩)]
    · rw [decide_eq_false (fun hm => h ((mem_lsS w 64 n).1 hm).2)]
      simpa using h), ofS_bits]
  exact Nat.mod_eq_of_lt hw
theorem lsS_inj {a b : Nat} (ha : a < 2 ^ 64) (hb : b < 2 ^ 64) (h : lsS a 64 = lsS b 64) : a = b := by
  rw [← ofS_list a ha, ← ofS_list b hb, h]

/-- has a all that b has, below k? -/
def hasK (a b : Nat) : Nat → Bool
  | 0 => true
  | k + 1 => hasK a b k && (!b.testBit k || a.testBit k)
theorem hasK_iff (a b : Nat) : ∀ k, hasK a b k = true ↔ ∀ n, n < k → b.testBit n = true → a.testBit n = true
  | 0 => by simp [hasK]
  | k + 1 => by
    unfold hasK
    rw [Bool.and_eq_true, hasK_iff a b k]
    constructor
    · rintro ⟨h1, h2⟩ n hn hb
      rcases Nat.lt_or_ge n k with h | h
      · exact h1 n h hb
      · have : n = k := by omega
        subst this
        simpa [hb] using h2
    · intro h
      refine ⟨fun n hn => h n (by omega), ?_⟩
      cases hb : b.testBit k with
      | false => rfl
      | true => simp [h k (by omega) hb]
theorem hasK_self (a : Nat) : hasK a a 64 = true := (hasK_iff a a 64).2 fun _ _ h => h
theorem hasK_and (a b : Nat) : hasK a (a &&& b) 64 = true := (hasK_iff a (a &&& b) 64).2 fun n _ h => by
  rw [Nat.testBit_and, Bool.and_eq_true] at h
  exact h.1
theorem hasK_or (a b : Nat) : hasK (a ||| b) b 64 = true := (hasK_iff (a ||| b) b 64).2 fun n _ h => by
  rw [Nat.testBit_or, h, Bool.or_true]
theorem hasK_trans {a b c : Nat} (h1 : hasK a b 64 = true) (h2 : hasK b c 64 = true) : hasK a c 64 = true :=
  (hasK_iff a c 64).2 fun n hn h => (hasK_iff a b 64).1 h1 n hn ((hasK_iff b c 64).1 h2 n hn h)
theorem hasK_anti {a b : Nat} (ha : a < 2 ^ 64) (hb : b < 2 ^ 64) (h1 : hasK a b 64 = true) : hasK b a 64 = decide (a = b) := by
  by_cases h : a = b
  · subst h
    rw [hasK_self, decide_eq_true rfl]
  · rw [decide_eq_false h]
    cases h2 : hasK b a 64 with
    | false => rfl
    | true =>
      refine absurd (lsS_inj ha hb ?_) h
      unfold lsS
      refine List.filter_congr fun n hn => ?_
      have hn := List.mem_range.1 hn
      have e1 := (hasK_iff a b 64).1 h1 n hn
      have e2 := (hasK_iff b a 64).1 h2 n hn
      cases h3 : a.testBit n with
      | true => exact (e2 h3).symm
      | false =>
        cases h4 : b.testBit n with
        | true => rw [e1 h4] at h3; cases h3
        | false => rfl
theorem count_le {a b : Nat} (h : hasK a b 64 = true) : (lsS b 64).length ≤ (lsS a 64).length := by
  have key : ∀ k, k ≤ 64 → (lsS b k).length ≤ (lsS a k).length := by
    intro k
    induction k with
    | zero => intro _; simp [lsS]
    | succ k ih =>
      intro hk
      have h1 := ih (by omega)
      have h2 := (hasK_iff a b 64).1 h k (by omega)
      rw [lsS_succ, lsS_succ, List.length_append, List.length_append]
      cases h3 : b.testBit k with
      | true => simp [h2 h3]; omega
      | false => cases a.testBit k <;> simp <;> omega
  exact key 64 (Nat.le_refl _)
theorem count_sum (a b : Nat) : ∀ k, (lsS (a &&& b) k).length + (lsS (a ||| b) k).length = (lsS a k).length + (lsS b k).length
  | 0 => by simp [lsS]
  | k + 1 => by
    have h := count_sum a b k
    rw [lsS_succ, lsS_succ, lsS_succ, lsS_succ, List.length_append, List.length_append, List.length_append, List.length_append, Nat.testBit_and, Nat.testBit_or]
    cases a.testBit k <;> cases b.testBit k <;> simp <;> omega

/-! ### Signs and texts -/
def sgL : List UInt8 := [97, 98, 99, 100, 101, 102, 103, 104, 105, 106, 107, 108, 109, 110, 111, 112, 113, 114, 115, 116, 117, 118, 119, 120, 121, 122, 65, 66, 67, 68, 69, 70, 71, 72, 73, 74, 75, 76, 77, 78, 79, 80, 81, 82, 83, 84, 85, 86, 87, 88, 89, 90, 48, 49, 50, 51, 52, 53, 54, 55, 56, 57, 43, 47]
def sg (n : Nat) : UInt8 := sgL.getD n 0
theorem sg_inj : ∀ m, m < 64 → ∀ n, n < 64 → sg m = sg n → m = n := by decide +kernel
theorem sg_no : ∀ m, m < 64 → sg m ≠ 45 := by decide +kernel
def txtK (w k : Nat) : List UInt8 := (lsS w k).map sg
theorem txtK_succ (w k : Nat) : txtK w (k + 1) = txtK w k ++ (if w.testBit k then [sg k] else []) := by
  unfold txtK
  rw [lsS_succ, List.map_append]
  congr 1
  by_cases h : w.testBit k = true
  · simp [h]
  · simp [h]
theorem txtK_len (w k : Nat) : (txtK w k).length ≤ k := by
  unfold txtK
  rw [List.length_map]
  exact lsS_len w k
def txtS (w : Nat) : List UInt8 := if txtK w 64 = [] then [45] else txtK w 64
/-- what has been read of a text behind k signs -/
def parK (s : List UInt8) : Nat → List Nat
  | 0 => []
  | k + 1 => if s[(parK s k).length]? = some (sg k) then parK s k ++ [k] else parK s k
theorem parK_len (s : List UInt8) : ∀ k, (parK s k).length ≤ k
  | 0 => by simp [parK]
  | k + 1 => by
    have := parK_len s k
    unfold parK
    split
    · rw [List.length_append]; simp; omega
    · omega
theorem parK_mem (s : List UInt8) : ∀ k, ∀ n ∈ parK s k, n < k
  | 0, n, h => by simp [parK] at h
  | k + 1, n, h => by
    unfold parK at h
    split at h
    · rw [List.mem_append] at h
      rcases h with h | h
      · have := parK_mem s k n h; omega
      · simp at h; omega
    · have := parK_mem s k n h; omega
theorem parK_fits (s : List UInt8) : ∀ k, (parK s k).length ≤ s.length
  | 0 => by simp [parK]
  | k + 1 => by
    have h := parK_fits s k
    unfold parK
    split
    · rename_i h1
      have := (List.getElem?_eq_some_iff.1 h1).1
      rw [List.length_append]
      simp
      omega
    · exact h
def parS (s : List UInt8) : Nat × Bool := if s = [45] then (0, true) else if (parK s 64).length < s.length ∨ s = [] then (0, false) else (ofS (fun n => decide (n ∈ parK s 64)) 64, true)
theorem parK_txt (w : Nat) : ∀ k, k ≤ 64 → parK (txtK w 64) k = lsS w k
  | 0, _ => by simp [parK, lsS]
  | k + 1, hk => by
    have ih := parK_txt w k (by omega)
    obtain ⟨r, hr⟩ := lsS_pre w (k + 1) (64 - (k + 1))
    rw [show k + 1 + (64 - (k + 1)) = 64 by omega] at hr
    unfold parK
    rw [ih, lsS_succ]
    by_cases hb : w.testBit k = true
    · rw [if_pos hb]
      rw [lsS_succ, if_pos hb] at hr
      rw [if_pos]
      unfold txtK
      rw [← hr]
      simp
    · rw [if_neg hb, List.append_nil]
      rw [if_neg]
      intro h
      unfold txtK at h
      rw [List.getElem?_map] at h
      obtain ⟨m, hm, e⟩ := Option.map_eq_some_iff.1 h
      have h1 := (mem_lsS w 64 m).1 (List.mem_of_getElem? hm)
      have := sg_inj m h1.1 k (by omega) e
      subst this
      exact hb h1.2
theorem par_txt (w : Nat) (hw : w < 2 ^ 64) : parS (txtS w) = (w, true) := by
  unfold parS txtS
  by_cases h0 : txtK w 64 = []
  · rw [if_pos h0, if_pos rfl]
    have hl : lsS w 64 = [] := by simpa [txtK] using h0
    have := ofS_list w hw
    rw [hl] at this
    have e : ofS (fun n => decide (n ∈ ([] : List Nat))) 64 = 0 := by decide +kernel
    rw [e] at this
    rw [← this]
  · rw [if_neg h0, parK_txt w 64 (Nat.le_refl _)]
    have h1 : txtK w 64 ≠ [45] := fun h => by
      have : (45 : UInt8) ∈ txtK w 64 := by rw [h]; exact List.mem_singleton_self _
      unfold txtK at this
      obtain ⟨m, hm, e⟩ := List.mem_map.1 this
      exact sg_no m ((mem_lsS w 64 m).1 hm).1 e
    rw [if_neg h1, if_neg]
    · rw [ofS_list w hw]
    · rintro (h | h)
      · unfold txtK at h
        rw [List.length_map] at h
        omega
      · exact h0 h
theorem txt_inj {a b : Nat} (ha : a < 2 ^ 64) (hb : b < 2 ^ 64) (h : txtS a = txtS b) : a = b := by
  have h1 := par_txt a ha
  rw [h, par_txt b hb] at h1
  exact (Prod.mk.inj h1).1.symm
theorem txtS_len (w : Nat) : (txtS w).length ≤ 64 := by
  unfold txtS
  split
  · simp
  · exact txtK_len w 64
theorem parS_lt (s : List UInt8) : (parS s).1 < 2 ^ 64 := by
  unfold parS
  split
  · decide
  · split
    · decide
    · exact ofS_lt _ 64
end Go.Proofs.Ythchkhgimnchcaa
/- Stage 12: the document's Is, List, Of, Has. -/
namespace Go.Proofs.Ythchkhgimnchcaa
open Go.RowKit

theorem half_step (w k : Nat) : ((w / 2 ^ k : Nat) : Int) / 2 = ((w / 2 ^ (k + 1) : Nat) : Int) := by
  rw [Nat.pow_succ, ← Nat.div_div_eq_div_mul]
  omega

/-- skills as numbers of a list -/
def ints (l : List Nat) : List Int := l.map fun (n : Nat) => (n : Int)
theorem ints_append (a b : List Nat) : ints (a ++ b) = ints a ++ ints b := List.map_append
theorem ints_len (l : List Nat) : (ints l).length = l.length := List.length_map ..

theorem oneI (w : World) (n : Int) : RowsAt (w.alloc (.cells #[.int .i64 n] 3)) 1 csI (.slice (some ⟨w.heap.size, 0, none⟩) 1 1) [n] := by
  refine ⟨_, 1, rfl, Nat.le_refl _, fun _ => ⟨w.heap.size, 0, rfl, by simp, fun j x hj i u hu => ?_⟩⟩
  have h0 : j = 0 ∧ x = n := by
    cases j with
    | zero => simp at hj; exact ⟨rfl, hj.symm⟩
    | succ j => simp at hj
  obtain ⟨rfl, rfl⟩ := h0
  have h1 : i = 0 ∧ u = .int .i64 x := by
    cases i with
    | zero => simp [csI] at hu; exact ⟨rfl, hu.symm⟩
    | succ i => simp [csI] at hu
  obtain ⟨rfl, rfl⟩ := h1
  go_simp
theorem csI_one (n : Int) : ∀ u ∈ csI n, u.oneCell' = true := by
  intro u hu
  simp [csI] at hu
  subst hu
  rfl

end Go.Proofs.Ythchkhgimnchcaa
/- Stage 22: the document's answers. -/
namespace Go.Proofs.Ythchkhgimnchcaa
open Go.RowKit

/-- a spec's box, a rules' box -/
theorem boxS (w : World) (id prio sk ge fx fy tx ty : Int) (v : Value) : Blk (w.alloc (.cells #[.int .i64 id, .int .i64 prio, .int .u64 sk, .int .u64 ge, .int .i64 fx, .int .i64 fy, .int .i64 tx, .int .i64 ty, v] 41)) w.heap.size [.int .i64 id, .int .i64 prio, .int .u64 sk, .int .u64 ge, .int .i64 fx, .int .i64 fy, .int .i64 tx, .int .i64 ty, v] := Blk.new w _ _
end Go.Proofs.Ythchkhgimnchcaa
