/- Texts of this proof, joined: Chain; ChainO; Lks; RefSet; IdRef; PlanRefE; PlanRefF. -/
import Derived.Test.YthchkhgimnchcaaGreatBun12
/- A region that draws its order, in which some operations (builtin appends, new blocks, calls) stand in a chain, each behind the one before, and change memory that the region has made itself; all others only read, or call quietly; then a tail in a forced order. -/
namespace Go.Proofs.YthchkhgimnchcaaGreat
open Go.RowKit

section
variable {P : Program} {ops : Array Oper} {md : Region.Mode} {W : World}

/-- what new memory leaves -/
def KeptC (F : World → Prop) : Prop := ∀ w w', F w → Below w.heap.size w w' → F w'

/-- what an operation of the chain hands back, and what holds behind it -/
structure Lk where
  α : Type
  ne : Nonempty α
  val : α → Value
  R : α → World → Prop
def Lk.upon (k : Lk) (P : Program) (B : Nat) (w : World) : Result Next → Prop
  | .ok (.value v) w' => ∃ x, v = k.val x ∧ k.R x w' ∧ Below B w w'
  | .ok (.enter f args) w1 => w1 = w ∧ Calls P f args w fun e w' => ∃ x, e = .returned (k.val x) ∧ k.R x w' ∧ Below B w w'
  | _ => False
structure Lk.at (k : Lk) (P : Program) (o : Oper) (a : Act) (W : World) (G : World → Prop) : Prop where
  kept : ∀ x, KeptC (k.R x)
  run : ∀ n : In W, G n.w → k.upon P W.heap.size n.w ((execOp a.eval o).run P n.w)
theorem Lk.at.same {k : Lk} {o : Oper} {a a' : Act} {G : World → Prop} (he : execOp a'.eval o = execOp a.eval o) (h : k.at P o a W G) : k.at P o a' W G := ⟨h.kept, fun n hn => by rw [he]; exact h.run n hn⟩

structure HeldC (W : World) (G : World → Prop) (w : World) : Prop where
  below : Below W.heap.size W w
  fact : G w
  kept : KeptC G

def qOp (P : Program) (ops : Array Oper) (W : World) (N : Nat → Option Lk) (j : Nat) (K : Act → (World → Prop) → Prop) (a : Act) (G : World → Prop) : Prop :=
  match ops[j]? with
  | none => K a G
  | some o =>
    match N j with
    | none => if Region.wanted o (yielded ops a.tmps) then ∃ v, calmAt P o a W v ∧ K (a.put o.dst v) G else K (a.put o.dst undef) G
    | some k => Region.wanted o (yielded ops a.tmps) = true ∧ k.at P o a W G ∧ ∀ x, K (a.put o.dst (k.val x)) (k.R x)

variable {N : Nat → Option Lk}

theorem qOp_mono {j : Nat} {K K' : Act → (World → Prop) → Prop} {a : Act} {G : World → Prop} (h : ∀ a G, K a G → K' a G) (hh : qOp P ops W N j K a G) : qOp P ops W N j K' a G := by
  unfold qOp at *
  cases ho : ops[j]? with
  | none => simp only [ho] at hh; exact h _ _ hh
  | some o =>
    simp only [ho] at hh ⊢
    cases hn : N j with
    | none =>
      simp only [hn] at hh ⊢
      split
      · rename_i hw; simp only [hw, if_true] at hh; exact hh.imp fun v hv => ⟨hv.1, h _ _ hv.2⟩
      · rename_i hw; simp only [hw] at hh; exact h _ _ hh
    | some k =>
      simp only [hn] at hh ⊢
      exact ⟨hh.1, hh.2.1, fun x => h _ _ (hh.2.2 x)⟩

/-- What it is for a run. -/
theorem wpOp_of_qOp {i : Nat} {a : Act} {G : World → Prop} {w : World} {K : Act → (World → Prop) → Prop} {K' : Act → World → Prop} {Q : Exit → Act → World → Prop} (hz : HeldC W G w)
    (h : ∀ a G w, HeldC W G w → K a G → K' a w) (hh : qOp P ops W N i K a G) : wpOp P ops Q i K' a w := by
  obtain ⟨hw, hf, hk⟩ := hz
  unfold qOp at hh
  unfold wpOp
  cases ho : ops[i]? with
  | none => simp only [ho] at hh; exact h _ _ _ ⟨hw, hf, hk⟩ hh
  | some o =>
    simp only [ho] at hh ⊢
    cases hn : N i with
    | none =>
      simp only [hn] at hh
      split
      · rename_i hwant
        simp only [hwant, if_true] at hh
        obtain ⟨v, hv, hK⟩ := hh
        refine .inl ?_
        have h3 := hv ⟨w, hw⟩
        unfold Oper.wp
        simp only at h3
        generalize (execOp a.eval o).run P w = r at *
        cases r with
        | ok n w' =>
          cases n <;> simp only [Oper.quietUpon] at h3 <;> simp only [Oper.upon]
          case value u =>
            obtain ⟨e1, e2⟩ := h3
            rw [e1, e2]
            exact h _ _ _ ⟨hw, hf, hk⟩ hK
          case skip =>
            obtain ⟨e1, e2⟩ := h3
            rw [e1, ← e2]
            exact h _ _ _ ⟨hw, hf, hk⟩ hK
          case enter f args =>
            obtain ⟨e1, hc⟩ := h3
            rw [e1]
            refine hc.mono fun e w'' ⟨he, n, hn⟩ => ?_
            subst he
            subst hn
            exact h _ _ _ ⟨hw.trans (n.h.mono hw.size), hk _ _ hf n.h, hk⟩ hK
        | halt x w' => simp only [Oper.quietUpon] at h3
      · rename_i hwant
        simp only [hwant] at hh
        exact h _ _ _ ⟨hw, hf, hk⟩ hh
    | some k =>
      simp only [hn] at hh
      obtain ⟨hwant, hat, hK⟩ := hh
      rw [if_pos hwant]
      refine .inl ?_
      have h3 := hat.run ⟨w, hw⟩ hf
      unfold Oper.wp
      simp only at h3
      generalize (execOp a.eval o).run P w = r at *
      cases r with
      | ok n w' =>
        cases n <;> simp only [Lk.upon] at h3
        case value u =>
          obtain ⟨x, rfl, hr, hb⟩ := h3
          simp only [Oper.upon]
          exact h _ _ _ ⟨hw.trans hb, hr, hat.kept x⟩ (hK x)
        case enter f args =>
          obtain ⟨e1, hc⟩ := h3
          subst e1
          simp only [Oper.upon]
          refine hc.mono fun e w'' ⟨x, he, hr, hb⟩ => ?_
          subst he
          exact h _ _ _ ⟨hw.trans hb, hr, hat.kept x⟩ (hK x)
      | halt x w' => simp only [Lk.upon] at h3

/-- The head, in whatever order, till L. -/
def anyQ (P : Program) (md : Region.Mode) (ops : Array Oper) (W : World) (N : Nat → Option Lk) (n : Nat) (L : Array Bool → Act → (World → Prop) → Prop) : Nat → Array Bool → Act → (World → Prop) → Prop
  | 0, listed, a, G => L listed a G
  | f + 1, listed, a, G =>
    Region.ready md ops listed ≠ [] ∧ ∀ i ∈ Region.ready md ops listed, i < n ∧ qOp P ops W N i (anyQ P md ops W N n L f (listed.setIfInBounds i true)) a G

theorem wpAny_of_anyQ {n g : Nat} {L : Array Bool → Act → (World → Prop) → Prop} {Q : Exit → Act → World → Prop} (hL : ∀ listed a G w, HeldC W G w → L listed a G → wpAny P md ops Q g listed a w) :
    ∀ (f : Nat) (listed : Array Bool) (a : Act) (G : World → Prop) (w : World), HeldC W G w → anyQ P md ops W N n L f listed a G → wpAny P md ops Q (f + g) listed a w
  | 0, listed, a, G, w, hw, h => by rw [Nat.zero_add]; exact hL _ _ _ _ hw h
  | f + 1, listed, a, G, w, hw, h => by
    rw [show f + 1 + g = (f + g) + 1 by omega]
    exact ⟨fun h0 => absurd h0 h.1, fun i hi => wpOp_of_qOp hw (fun a' G' w' hw' h' => wpAny_of_anyQ hL f _ a' G' w' hw' h') (h.2 i hi).2⟩

theorem qOp_put_calm {j : Nat} {oi oj : Oper} {v : Value} (hj : ops[j]? = some oj) (hap : oi.apart ops oj = true)
    (hsi : ∀ cs b, oi.op ≠ .select cs b) (hsj : ∀ cs b, oj.op ≠ .select cs b) {K : Act → (World → Prop) → Prop} {a : Act} {G : World → Prop}
    (hy : CalmY P ops W oi v a) (h : qOp P ops W N j K (a.put oi.dst v) G) :
    qOp P ops W N j (fun a' G' => CalmY P ops W oi v a' ∧ K (a'.put oi.dst v) G') a G := by
  obtain ⟨h1, h2, h3⟩ := Oper.apart_spec hap
  unfold qOp at *
  simp only [hj] at *
  cases hn : N j with
  | none =>
    simp only [hn] at h ⊢
    rw [wanted_put oj a oi.dst v h1] at h
    split
    · rename_i hw
      simp only [hw, if_true] at h
      obtain ⟨u, hu, hK⟩ := h
      exact ⟨u, calmAt_same (execOp_put oj hsj a oi.dst v h1).symm hu, hy.put h3 hsi u, by rw [← Act.put_comm a v u h2]; exact hK⟩
    · rename_i hw
      simp only [hw] at h
      exact ⟨hy.put h3 hsi _, by rw [← Act.put_comm a v undef h2]; exact h⟩
  | some k =>
    simp only [hn] at h ⊢
    obtain ⟨hw, hs, hK⟩ := h
    exact ⟨by rw [← wanted_put oj a oi.dst v h1]; exact hw, hs.same (execOp_put oj hsj a oi.dst v h1).symm,
      fun x => ⟨hy.put h3 hsi _, by rw [← Act.put_comm a v _ h2]; exact hK x⟩⟩

theorem CalmY.qOp {i : Nat} {o : Oper} {v : Value} {a : Act} {G : World → Prop} (hi : ops[i]? = some o) (hn : N i = none) (hy : CalmY P ops W o v a) {K : Act → (World → Prop) → Prop} (h : K (a.put o.dst v) G) : qOp P ops W N i K a G := by
  unfold Go.Proofs.YthchkhgimnchcaaGreat.qOp
  simp only [hi, hn]
  rcases hy with ⟨hw, hv⟩ | ⟨hw, rfl⟩
  · simp only [hw, if_true]; exact ⟨v, hv, h⟩
  · simp only [hw, Bool.false_eq_true, if_false]; exact h

theorem anyQ_first {n i : Nat} {oi : Oper} {v : Value} {L : Array Bool → Act → (World → Prop) → Prop} (hi : ops[i]? = some oi) (hN : N i = none) (hsel : ∀ (j : Nat) (o : Oper) cs b, ops[j]? = some o → o.op ≠ .select cs b)
    (hh : HeadFirst md ops n) (hin : i < n) (hdone : ∀ listed a G, L listed a G → ∀ j ∈ Region.ready md ops listed, n ≤ j) :
    ∀ (f : Nat) (listed : Array Bool) (a : Act) (G : World → Prop), HeadInv md ops n listed →
      (∀ j oj, ops[j]? = some oj → j ≠ i → listed.getD j true = false → (∀ e ∈ oj.after, Region.binds md e = true → e.on ≠ i) → oi.apart ops oj = true) →
      i ∈ Region.ready md ops listed → CalmY P ops W oi v a →
      anyQ P md ops W N n L f (listed.setIfInBounds i true) (a.put oi.dst v) G → anyQ P md ops W N n L (f + 1) listed a G := by
  intro f
  induction f with
  | zero =>
    intro listed a G inv _ hr hy H
    have hun := (mem_ready.1 hr).1
    refine ⟨fun h => (by rw [h] at hr; cases hr), fun j hj => ?_⟩
    refine ⟨hh.lt inv hin hun hj, ?_⟩
    by_cases hji : j = i
    · subst hji; exact hy.qOp hi hN H
    · have := hdone _ _ _ H j (ready_mono hj hji)
      have := hh.lt inv hin hun hj
      omega
  | succ f ih =>
    intro listed a G inv hfree hr hy H
    have hun := (mem_ready.1 hr).1
    refine ⟨fun h => (by rw [h] at hr; cases hr), fun j hj => ?_⟩
    have hjn := hh.lt inv hin hun hj
    refine ⟨hjn, ?_⟩
    by_cases hji : j = i
    · subst hji; exact hy.qOp hi hN H
    · have h1 := (H.2 j (ready_mono hj hji)).2
      obtain ⟨hjun, oj, hoj, hall⟩ := mem_ready.1 hj
      have h2 := qOp_put_calm hoj (hfree j oj hoj hji hjun (not_after (j := j) hun hall rfl rfl)) (fun cs b => hsel i oi cs b hi) (fun cs b => hsel j oj cs b hoj) hy h1
      have hfree' : ∀ k ok, ops[k]? = some ok → k ≠ i → (listed.setIfInBounds j true).getD k true = false →
          (∀ e ∈ ok.after, Region.binds md e = true → e.on ≠ i) → oi.apart ops ok = true := fun k ok hk hki hun' hno => by
        refine hfree k ok hk hki ?_ hno
        by_cases hjk : j = k
        · subst hjk; exact hjun
        · rw [getD_set_ne true hjk] at hun'; exact hun'
      refine qOp_mono (fun a' G' h3 => ih (listed.setIfInBounds j true) a' G' (inv.set hj hjn) hfree' (ready_mono hr (Ne.symm hji)) h3.1 ?_) h2
      rw [Array.setIfInBounds_comm _ _ hji]
      exact h3.2

/-! ### The chain -/
/-- j waits for i -/
def beforeB (md : Region.Mode) (ops : Array Oper) : Nat → Nat → Nat → Bool
  | 0, _, _ => false
  | f + 1, i, j => match ops[j]? with
    | none => false
    | some oj => oj.after.any fun e => Region.binds md e && (e.on == i || beforeB md ops f i e.on)
theorem beforeB_edge {f i j : Nat} {oj : Oper} (hj : ops[j]? = some oj) (h : beforeB md ops (f + 1) i j = true) : ∃ e ∈ oj.after, Region.binds md e = true ∧ (e.on = i ∨ beforeB md ops f i e.on = true) := by
  unfold beforeB at h
  simp only [hj] at h
  obtain ⟨e, he, hb⟩ := Array.any_eq_true'.1 h
  simp only [Bool.and_eq_true, Bool.or_eq_true, beq_iff_eq] at hb
  exact ⟨e, he, hb⟩
theorem beforeB_listed {n i : Nat} {listed : Array Bool} (inv : HeadInv md ops n listed) : ∀ (f j : Nat), beforeB md ops f i j = true → listed.getD j false = true → listed.getD i false = true
  | 0, _, h, _ => by unfold beforeB at h; cases h
  | f + 1, j, h, hl => by
    cases hj : ops[j]? with
    | none => unfold beforeB at h; simp only [hj] at h; cases h
    | some oj =>
      obtain ⟨e, he, hb, h1⟩ := beforeB_edge hj h
      have h2 := inv.closed j oj hj hl e he hb
      rcases h1 with rfl | h1
      · exact h2
      · exact beforeB_listed inv f _ h1 h2
theorem beforeB_not {n f i j : Nat} {listed : Array Bool} (inv : HeadInv md ops n listed) (hb : beforeB md ops f i j = true) (hi : i ∈ Region.ready md ops listed) (hj : j ∈ Region.ready md ops listed) : False := by
  have hun := getD_both (mem_ready.1 hi).1
  obtain ⟨_, oj, hoj, hall⟩ := mem_ready.1 hj
  cases f with
  | zero => unfold beforeB at hb; cases hb
  | succ f =>
    obtain ⟨e, he, hbd, h1⟩ := beforeB_edge hoj hb
    have h2 := hall e he hbd
    rcases h1 with rfl | h1
    · rw [hun] at h2; cases h2
    · have := beforeB_listed inv f _ h1 h2
      rw [hun] at this; cases this
/-- of two of them one waits for the other -/
def chainOf (md : Region.Mode) (ops : Array Oper) (l : List Nat) : Bool := l.all fun i => l.all fun j => i == j || beforeB md ops ops.size i j || beforeB md ops ops.size j i
theorem chainOf_not {l : List Nat} (h : chainOf md ops l = true) {n i j : Nat} {listed : Array Bool} (inv : HeadInv md ops n listed) (hi : i ∈ l) (hj : j ∈ l) (hne : j ≠ i) (h1 : i ∈ Region.ready md ops listed) (h2 : j ∈ Region.ready md ops listed) : False := by
  unfold chainOf at h
  have h3 := List.all_eq_true.1 (List.all_eq_true.1 h i hi) j hj
  simp only [Bool.or_eq_true, beq_iff_eq] at h3
  rcases h3 with (h3 | h3) | h3
  · exact hne h3.symm
  · exact beforeB_not inv h3 h1 h2
  · exact beforeB_not inv h3 h2 h1

theorem qOp_put_own {j : Nat} {k : Lk} {oi oj : Oper} (hj : ops[j]? = some oj) (hNj : N j = none) (hap : oi.apart ops oj = true)
    (hsi : ∀ cs b, oi.op ≠ .select cs b) (hsj : ∀ cs b, oj.op ≠ .select cs b) {K : Act → (World → Prop) → Prop} {a : Act} {G : World → Prop}
    (hwi : Region.wanted oi (yielded ops a.tmps) = true) (hy : k.at P oi a W G) (h : ∀ x, qOp P ops W N j K (a.put oi.dst (k.val x)) (k.R x)) :
    qOp P ops W N j (fun a' G' => Region.wanted oi (yielded ops a'.tmps) = true ∧ k.at P oi a' W G' ∧ ∀ x, K (a'.put oi.dst (k.val x)) (k.R x)) a G := by
  obtain ⟨h1, h2, h3⟩ := Oper.apart_spec hap
  obtain ⟨x0⟩ := k.ne
  unfold qOp at *
  simp only [hj, hNj] at *
  split
  · rename_i hw
    have h' : ∀ x, ∃ u, calmAt P oj a W u ∧ K ((a.put oi.dst (k.val x)).put oj.dst u) (k.R x) := fun x => by
      have h5 := h x
      rw [wanted_put oj a oi.dst _ h1] at h5
      simp only [hw, if_true] at h5
      obtain ⟨u, hu, hK⟩ := h5
      exact ⟨u, calmAt_same (execOp_put oj hsj a oi.dst _ h1).symm hu, hK⟩
    obtain ⟨u, hu, _⟩ := h' x0
    refine ⟨u, hu, by rw [wanted_put oi a oj.dst _ h3]; exact hwi, hy.same (execOp_put oi hsi a oj.dst _ h3), fun x => ?_⟩
    obtain ⟨u', hu', hK⟩ := h' x
    have e : u' = u := upon_unique (hu' (In.self W)) (hu (In.self W))
    subst e
    rw [← Act.put_comm a _ _ h2]
    exact hK
  · rename_i hw
    refine ⟨by rw [wanted_put oi a oj.dst _ h3]; exact hwi, hy.same (execOp_put oi hsi a oj.dst _ h3), fun x => ?_⟩
    have h5 := h x
    rw [wanted_put oj a oi.dst _ h1] at h5
    simp only [hw] at h5
    rw [← Act.put_comm a _ _ h2]
    exact h5

theorem anyQ_own {n i : Nat} {k : Lk} {oi : Oper} {L : Array Bool → Act → (World → Prop) → Prop} (hi : ops[i]? = some oi) (hN : N i = some k) (hsel : ∀ (j : Nat) (o : Oper) cs b, ops[j]? = some o → o.op ≠ .select cs b)
    (hch : ∀ listed, HeadInv md ops n listed → i ∈ Region.ready md ops listed → ∀ j ∈ Region.ready md ops listed, j ≠ i → N j = none)
    (hh : HeadFirst md ops n) (hin : i < n) (hdone : ∀ listed a G, L listed a G → ∀ j ∈ Region.ready md ops listed, n ≤ j) :
    ∀ (f : Nat) (listed : Array Bool) (a : Act) (G : World → Prop), HeadInv md ops n listed →
      (∀ j oj, ops[j]? = some oj → j ≠ i → listed.getD j true = false → (∀ e ∈ oj.after, Region.binds md e = true → e.on ≠ i) → oi.apart ops oj = true) →
      i ∈ Region.ready md ops listed → Region.wanted oi (yielded ops a.tmps) = true → k.at P oi a W G →
      (∀ x, anyQ P md ops W N n L f (listed.setIfInBounds i true) (a.put oi.dst (k.val x)) (k.R x)) → anyQ P md ops W N n L (f + 1) listed a G := by
  have direct : ∀ {K : Act → (World → Prop) → Prop} {a : Act} {G : World → Prop}, Region.wanted oi (yielded ops a.tmps) = true → k.at P oi a W G → (∀ x, K (a.put oi.dst (k.val x)) (k.R x)) → qOp P ops W N i K a G := by
    intro K a G h1 h2 h3
    unfold qOp
    simp only [hi, hN]
    exact ⟨h1, h2, h3⟩
  obtain ⟨x0⟩ := k.ne
  intro f
  induction f with
  | zero =>
    intro listed a G inv _ hr hwi hy H
    have hun := (mem_ready.1 hr).1
    refine ⟨fun h => (by rw [h] at hr; cases hr), fun j hj => ?_⟩
    refine ⟨hh.lt inv hin hun hj, ?_⟩
    by_cases hji : j = i
    · subst hji; exact direct hwi hy H
    · have := hdone _ _ _ (H x0) j (ready_mono hj hji)
      have := hh.lt inv hin hun hj
      omega
  | succ f ih =>
    intro listed a G inv hfree hr hwi hy H
    have hun := (mem_ready.1 hr).1
    refine ⟨fun h => (by rw [h] at hr; cases hr), fun j hj => ?_⟩
    have hjn := hh.lt inv hin hun hj
    refine ⟨hjn, ?_⟩
    by_cases hji : j = i
    · subst hji; exact direct hwi hy H
    · obtain ⟨hjun, oj, hoj, hall⟩ := mem_ready.1 hj
      have h2 := qOp_put_own (N := N) (k := k) hoj (hch listed inv hr j hj hji) (hfree j oj hoj hji hjun (not_after (j := j) hun hall rfl rfl)) (fun cs b => hsel i oi cs b hi) (fun cs b => hsel j oj cs b hoj) hwi hy
        (fun x => ((H x).2 j (ready_mono hj hji)).2)
      have hset : ∀ k, (listed.setIfInBounds j true).getD k true = false → listed.getD k true = false := fun k hk => by
        by_cases hjk : j = k
        · subst hjk; exact hjun
        · rw [getD_set_ne true hjk] at hk; exact hk
      refine qOp_mono (fun a' G' h3 => ih (listed.setIfInBounds j true) a' G' (inv.set hj hjn) (fun k ok hk hki hun' hno => hfree k ok hk hki (hset k hun') hno)
        (ready_mono hr (Ne.symm hji)) h3.1 h3.2.1 (fun x => ?_)) h2
      rw [Array.setIfInBounds_comm _ _ hji]
      exact h3.2.2 x

/-! ### The text's order -/
def wpKq (P : Program) (ops : Array Oper) (W : World) (Q : Act → (World → Prop) → Prop) : List (Option Lk) → List Oper → Act → (World → Prop) → Prop
  | [], [], a, G => Q a G
  | none :: ks, o :: l, a, G => if Region.wanted o (yielded ops a.tmps) then ∃ v, calmAt P o a W v ∧ wpKq P ops W Q ks l (a.put o.dst v) G else wpKq P ops W Q ks l (a.put o.dst undef) G
  | some k :: ks, o :: l, a, G => Region.wanted o (yielded ops a.tmps) = true ∧ k.at P o a W G ∧ ∀ x, wpKq P ops W Q ks l (a.put o.dst (k.val x)) (k.R x)
  | _, _, _, _ => False

theorem anyQ_of_K {n g : Nat} {Lq : Act → (World → Prop) → Prop} (hsel : Region.noSelect ops = true) (hh : HeadFirst md ops n) (hle : n ≤ ops.size) (inds : List Nat) (hinds : ∀ j k, N j = some k → j ∈ inds) (hch : chainOf md ops inds = true) :
    ∀ (ks : List (Option Lk)) (l : List Oper) (k : Nat) (listed : Array Bool) (a : Act) (G : World → Prop), (∀ j, j < l.length → l[j]? = ops[k + j]?) → (∀ j kd, ks[j]? = some kd → N (k + j) = kd) → k + l.length = n →
    (∀ j, j < k → listed.getD j true = true) → HeadInv md ops n listed →
    Region.lexHead md ops g l.length k listed = true → wpKq P ops W Lq ks l a G →
    anyQ P md ops W N n (fun listed' a' G' => Region.seqB md ops g n listed' = true ∧ Lq a' G') l.length listed a G
  | [], [], k, listed, a, G, hl, hs, hk, hdone, inv, hB, h => by
    have : k = n := by simpa using hk
    subst this
    exact ⟨by simpa [Region.lexHead] using hB, h⟩
  | [], _ :: _, _, _, _, _, _, _, _, _, _, _, h => by unfold wpKq at h; exact h.elim
  | none :: _, [], _, _, _, _, _, _, _, _, _, _, h => by unfold wpKq at h; exact h.elim
  | some _ :: _, [], _, _, _, _, _, _, _, _, _, _, h => by unfold wpKq at h; exact h.elim
  | kd :: ks, o :: l, k, listed, a, G, hl, hs, hk, hdone, inv, hB, h => by
    have h0 : ops[k]? = some o := by simpa using (hl 0 (by simp)).symm
    have hkn : k < n := by simp only [List.length_cons] at hk; omega
    have hNk : N k = kd := by simpa using hs 0 kd rfl
    simp only [List.length_cons, Region.lexHead, Bool.and_eq_true] at hB
    obtain ⟨⟨hr, hf⟩, hB'⟩ := hB
    have hr' : k ∈ Region.ready md ops listed := by simpa using hr
    have hl' : ∀ j, j < l.length → l[j]? = ops[k + 1 + j]? := fun j hj => by have := hl (j + 1) (by simp; omega); simpa [Nat.add_assoc, Nat.add_comm 1 j] using this
    have hs' : ∀ j kd', ks[j]? = some kd' → N (k + 1 + j) = kd' := fun j kd' hj => by have := hs (j + 1) kd' (by simpa using hj); simpa [Nat.add_assoc, Nat.add_comm 1 j] using this
    have hk' : k + 1 + l.length = n := by simp only [List.length_cons] at hk; omega
    have hdone' : ∀ j, j < k + 1 → (listed.setIfInBounds k true).getD j true = true := by
      intro j hj
      by_cases hjk : k = j
      · subst hjk
        have : k < listed.size := by rw [inv.size]; omega
        simp [this]
      · rw [getD_set_ne true hjk]; exact hdone j (by omega)
    cases kd with
    | none =>
      unfold wpKq at h
      obtain ⟨v, hy, hK⟩ : ∃ v, CalmY P ops W o v a ∧ wpKq P ops W Lq ks l (a.put o.dst v) G := by
        by_cases hw : Region.wanted o (yielded ops a.tmps) = true
        · simp only [hw, if_true] at h
          obtain ⟨v, hv, hK⟩ := h
          exact ⟨v, .inl ⟨hw, hv⟩, hK⟩
        · simp only [hw] at h
          exact ⟨undef, .inr ⟨by simpa using hw, rfl⟩, h⟩
      refine anyQ_first h0 hNk (Region.noSelect_spec hsel) hh hkn (fun listed' a' G' hL => seqB_ready hL.1) l.length listed a G inv (Region.free_spec h0 hf) hr' hy ?_
      exact anyQ_of_K hsel hh hle inds hinds hch ks l (k + 1) _ _ _ hl' hs' hk' hdone' (inv.set hr' hkn) hB' hK
    | some kk =>
      unfold wpKq at h
      obtain ⟨hw, hp, hrest⟩ := h
      refine anyQ_own h0 hNk (Region.noSelect_spec hsel) (fun listed' inv' h1 j hj hne => ?_) hh hkn (fun listed' a' G' hL => seqB_ready hL.1) l.length listed a G inv (Region.free_spec h0 hf) hr' hw hp (fun x => ?_)
      · cases hNj : N j with
        | none => rfl
        | some kj => exact (chainOf_not hch inv' (hinds k kk hNk) (hinds j kj hNj) hne h1 hj).elim
      · exact anyQ_of_K hsel hh hle inds hinds hch ks l (k + 1) _ _ _ hl' hs' hk' hdone' (inv.set hr' hkn) hB' (hrest x)

/-- how a head is told: k operations that read or call; or one of the chain -/
inductive Sq
  | calm (k : Nat)
  | own (k : Lk)
def kindsQ : List Sq → List (Option Lk)
  | [] => []
  | .calm k :: ss => List.replicate k none ++ kindsQ ss
  | .own k :: ss => some k :: kindsQ ss
def placesQ : Nat → List Sq → List Nat
  | _, [] => []
  | i, .calm k :: ss => placesQ (i + k) ss
  | i, .own _ :: ss => i :: placesQ (i + 1) ss
theorem placesQ_mem : ∀ (ss : List Sq) (i j : Nat) (k : Lk), (kindsQ ss)[j]? = some (some k) → i + j ∈ placesQ i ss
  | [], _, _, _, h => by simp [kindsQ] at h
  | .calm m :: ss, i, j, k, h => by
    unfold kindsQ at h
    unfold placesQ
    by_cases hj : j < m
    · rw [List.getElem?_append_left (by simpa using hj)] at h
      simp [hj] at h
    · rw [List.getElem?_append_right (by simpa using hj)] at h
      have := placesQ_mem ss (i + m) (j - m) k (by simpa using h)
      rwa [show i + m + (j - m) = i + j by omega] at this
  | .own m :: ss, i, 0, k, h => by unfold placesQ; exact List.mem_cons_self
  | .own m :: ss, i, j + 1, k, h => by
    unfold kindsQ at h
    unfold placesQ
    have := placesQ_mem ss (i + 1) j k (by simpa using h)
    rw [show i + 1 + j = i + (j + 1) by omega] at this
    exact List.mem_cons_of_mem _ this
def wpMq (P : Program) (ops : Array Oper) (W : World) (Q : Act → (World → Prop) → Prop) : List Sq → List Oper → Act → (World → Prop) → Prop
  | [], l, a, G => l = [] ∧ Q a G
  | .calm k :: ss, l, a, G => k ≤ l.length ∧ ∀ M : In W, wpQuiet P ops (fun w' => ∃ n : In M.w, w' = n.w) (fun a' => wpMq P ops W Q ss (l.drop k) a' G) (l.take k) a
  | .own k :: ss, l, a, G =>
    match l with
    | [] => False
    | o :: l => Region.wanted o (yielded ops a.tmps) = true ∧ k.at P o a W G ∧ ∀ x, ∀ a', a' = a.put o.dst (k.val x) → wpMq P ops W Q ss l a' (k.R x)
theorem wpKq_of_calm {Q : Act → (World → Prop) → Prop} (ks : List (Option Lk)) : ∀ (l l2 : List Oper) (a : Act) (G : World → Prop), wpCalm P ops W (fun a' => wpKq P ops W Q ks l2 a' G) l a → wpKq P ops W Q (List.replicate l.length none ++ ks) (l ++ l2) a G
  | [], l2, a, G, h => by simpa [wpCalm] using h
  | o :: l, l2, a, G, h => by
    rw [List.length_cons, List.replicate_succ, List.cons_append, List.cons_append]
    unfold wpKq
    unfold wpCalm at h
    split
    · rename_i hw
      simp only [hw, if_true] at h
      exact h.imp fun v hv => ⟨hv.1, wpKq_of_calm ks l l2 _ _ hv.2⟩
    · rename_i hw
      simp only [hw] at h
      exact wpKq_of_calm ks l l2 _ _ h
theorem wpKq_of_mix {Q : Act → (World → Prop) → Prop} : ∀ (ss : List Sq) (l : List Oper) (a : Act) (G : World → Prop), wpMq P ops W Q ss l a G → wpKq P ops W Q (kindsQ ss) l a G
  | [], l, a, G, h => by
    obtain ⟨rfl, h⟩ := h
    unfold kindsQ wpKq
    exact h
  | .calm k :: ss, l, a, G, h => by
    obtain ⟨hk, h⟩ := h
    have h2 := wpCalm_of_quiet (P := P) (ops := ops) (W := W) _ _ h
    have h3 : wpCalm P ops W (fun a' => wpKq P ops W Q (kindsQ ss) (l.drop k) a' G) (l.take k) a := by
      have mono : ∀ (l : List Oper) (a : Act) {Q1 Q2 : Act → Prop}, (∀ a, Q1 a → Q2 a) → wpCalm P ops W Q1 l a → wpCalm P ops W Q2 l a := by
        intro l
        induction l with
        | nil => intro a Q1 Q2 hq h; exact hq _ h
        | cons o l ih =>
          intro a Q1 Q2 hq h
          unfold wpCalm at h ⊢
          split
          · rename_i hw
            simp only [hw, if_true] at h
            exact h.imp fun v hv => ⟨hv.1, ih _ hq hv.2⟩
          · rename_i hw
            simp only [hw] at h
            exact ih _ hq h
      exact mono _ _ (fun a' ha' => wpKq_of_mix ss _ a' G ha') h2
    have h4 := wpKq_of_calm (kindsQ ss) (l.take k) (l.drop k) a G h3
    rw [List.take_append_drop, List.length_take, Nat.min_eq_left hk] at h4
    exact h4
  | .own k :: ss, [], a, G, h => by unfold wpMq at h; exact h.elim
  | .own k :: ss, o :: l, a, G, h => by
    unfold wpMq at h
    unfold kindsQ wpKq
    exact ⟨h.1, h.2.1, fun x => wpKq_of_mix ss l _ _ (h.2.2 x _ rfl)⟩

/-- THE LAW. -/
theorem wp_region_chain {id : Nat} {Q : Exit → Act → World → Prop} {a : Act} {l : List Oper} (n : Nat) (segs : List Sq) (inds : List Nat) (hp : placesQ 0 segs = inds) (hm : P.follows .mixedOrders = true)
    (hle : n ≤ l.length) (hB : calmB .any l.toArray n = true) (hC : chainOf .any l.toArray inds = true)
    (h : wpMq P l.toArray W (fun a'' G => ∀ w', Below W.heap.size W w' → G w' → wpList P l.toArray Q (l.drop n) a'' w') segs (l.take n) a (fun _ => True)) :
    (Code.region id l.toArray true).wp P Q a W := by
  unfold calmB at hB
  simp only [Bool.and_eq_true, Bool.or_eq_true, beq_iff_eq, decide_eq_true_eq] at hB
  obtain ⟨⟨hsel, hh0⟩, hlex⟩ := hB
  have hh : HeadFirst .any l.toArray n := hh0.imp (fun x => x) fun x => ⟨x.1.2, x.2, x.1.1⟩
  have hsz : l.toArray.size = l.length := by simp
  have htl : (l.take n).length = n := by simp; omega
  have inv0 : HeadInv .any l.toArray n (Array.replicate l.toArray.size false) :=
    ⟨by simp, fun j oj _ hl => (by rw [getD_replicate_false] at hl; cases hl), fun t _ ht => getD_in (by simpa using ht) (getD_replicate_false _ _)⟩
  have H := anyQ_of_K (P := P) (W := W) (md := .any) (N := fun j => ((kindsQ segs)[j]?).getD none) (g := l.toArray.size - n) hsel hh (by simpa using hle) inds
    (fun j k hj => by
      rw [← hp]
      cases hk : (kindsQ segs)[j]? with
      | none => simp [hk] at hj
      | some kd =>
        simp [hk] at hj
        subst hj
        simpa using placesQ_mem segs 0 j k hk) hC (kindsQ segs) (l.take n) 0 _ a (fun _ => True)
    (fun j hj => by
      rw [htl] at hj
      simp [hj]) (fun j kd hj => by simp [hj]) (by omega) (fun j hj => by omega) inv0 (by rw [htl]; exact hlex) (wpKq_of_mix _ _ _ _ h)
  refine wp_region_any hm ?_
  have h6 := wpAny_of_anyQ (Q := Q) (g := l.toArray.size - n) (fun listed a' G w' hw' hL => by
    have hdl : (l.drop n).length = l.toArray.size - n := by simp
    have := wpAny_of_seq (P := P) (md := .any) (Q' := Q) (l.drop n) n listed a' w' (fun j => by simp [List.getElem?_drop]) (by rw [hdl]; exact hL.1) (hL.2 w' hw'.below hw'.fact)
    rwa [hdl] at this) _ _ _ _ W.drew ⟨(Below.refl _ _).drew, trivial, fun _ _ _ _ => trivial⟩ H
  rw [htl, show n + (l.toArray.size - n) = l.toArray.size by omega] at h6
  exact h6
end
end Go.Proofs.YthchkhgimnchcaaGreat
/- Lists of one's own that a region gathers by appends in a chain. -/
namespace Go.Proofs.YthchkhgimnchcaaGreat
open Go.RowKit

/-- a list of n things in memory that is not older than W -/
def Lk.list {α : Type} (B : Nat) (K : Nat) (cs : α → List Value) (n : Nat) (l : List α) : Lk :=
  ⟨Option Addr × Nat, ⟨(none, 0)⟩, fun x => .slice x.1 n x.2, fun x w => OwnO w K cs (.slice x.1 n x.2) l ∧ ∀ g, (Value.slice x.1 n x.2).ownBlock = some g → B ≤ g⟩
theorem Lk.list_kept {α : Type} {B : Nat} {K n : Nat} {cs : α → List Value} {l : List α} (x : (Lk.list B K cs n l).α) : KeptC ((Lk.list B K cs n l).R x) := fun _ _ h hb => ⟨h.1.kept hb, h.2⟩
section
variable {P : Program} {o : Oper} {a : Act} {W : World} {G : World → Prop} {α : Type} {K : Nat} {cs : α → List Value}
theorem Lk.at_empty {B : Nat} (hB : W.heap.size = B) {e : TypeId} (he : ∀ n : In W, (execOp a.eval o).run P n.w = .ok (.value (.slice (some ⟨n.w.heap.size, 0, none⟩) 0 0)) (n.w.alloc (.cells #[] e))) : (Lk.list B K cs 0 []).at P o a W G :=
  ⟨Lk.list_kept, fun n _ => by
    subst hB
    rw [he n]
    refine ⟨(some ⟨n.w.heap.size, 0, none⟩, 0), rfl, ⟨.inr ⟨n.w.heap.size, 0, 0, rfl, by simp, Nat.le_refl _, by simp [maxLen], fun j hj => ?_, fun j hj => ?_⟩, fun g hg => ?_⟩, (Below.refl W.heap.size _).alloc n.h.size _⟩
    · simp at hj
    · simp at hj
    · simp [Value.ownBlock] at hg
      have := n.h.size
      omega⟩
theorem Lk.at_append {B : Nat} (hB : W.heap.size = B) (s x : Operand) (t tx : TypeId) (ho : o.op = .call { callee := .builtin .append, args := #[s, x], argTypes := #[t, tx] })
    (hK : ∀ x, (cs x).length = K) (hK0 : 0 < K) (hone : ∀ x, ∀ u ∈ cs x, u.oneCell' = true) (e ex : TypeId) (i : TypeInfo) (z : Value) (ht : P.underlying t = some (.slice e)) (htx : P.underlying tx = some (.slice ex)) (hi : P.info? e = some i) (hz : i.zero = some z) (hsize : i.size = K) (hzs : z.cells.size = K)
    (v : Value) (l : List α) (hs : a.eval s = v) (vx : Value) (m : List α) (hvx : a.eval x = vx) (n : Nat) (hn : n = l.length + m.length) (hlen : l.length + m.length ≤ maxLen) (hbytes : (l.length + m.length) * i.bytes ≤ 140737488355328)
    (hG : ∀ n : In W, G n.w → (OwnO n.w K cs v l ∧ ∀ g, v.ownBlock = some g → B ≤ g) ∧ RowsAt n.w K cs vx m) : (Lk.list B K cs n (l ++ m)).at P o a W G :=
  ⟨Lk.list_kept, fun w hw => by
    subst hn
    subst hB
    obtain ⟨⟨h1, h2⟩, h3⟩ := hG w hw
    obtain ⟨v', w', hrun, h4, h5, h6⟩ := run_append_o (P := P) hK hK0 hone t tx o.type e ex i z ht htx hi hz hsize hzs h1 vx m h3 hlen hbytes
    have he : (execOp a.eval o).run P w.w = .ok (.value v') w' := by
      simp [execOp, ho, resolve, invoke, builtin, hs, hvx, hrun, Result.andThen]
    rw [he]
    obtain ⟨b, c, rfl⟩ := h4.form
    have hb : ∀ g, (Value.slice b (l ++ m).length c).ownBlock = some g → W.heap.size ≤ g := fun g hg => by
      rcases h6 with h6 | h6
      · rw [h6] at hg
        exact h2 g hg
      · rw [h6] at hg
        cases hg
        exact w.h.size
    rw [List.length_append] at h4 hb
    exact ⟨(b, c), by rw [List.length_append]; rfl, ⟨h4, hb⟩, (Below.refl _ _).grown h5 w.h.size h2⟩⟩
/-- a call that hands back a list of new memory -/
theorem Lk.at_call {B : Nat} (hB : W.heap.size = B) {f : FuncId} {args : Array Value} (n : Nat) (l : List α) (hn : n = l.length) (he : ∀ n : In W, (execOp a.eval o).run P n.w = .ok (.enter f args) n.w)
    (hc : ∀ n : In W, Calls P f args n.w fun e w' => ∃ v, e = .returned v ∧ OwnO w' K cs v l ∧ (∀ g, v.ownBlock = some g → n.w.heap.size ≤ g) ∧ Below n.w.heap.size n.w w') : (Lk.list B K cs n l).at P o a W G :=
  ⟨Lk.list_kept, fun n _ => by
    subst hB
    subst hn
    rw [he n]
    refine ⟨rfl, (hc n).mono ?_⟩
    rintro e w' ⟨v, rfl, h1, h2, h3⟩
    obtain ⟨b, c, rfl⟩ := h1.form
    exact ⟨(b, c), rfl, ⟨h1, fun g hg => Nat.le_trans n.h.size (h2 g hg)⟩, h3.mono n.h.size⟩⟩
/-- a value that is settled -/
def Lk.val1 (v : Value) : Lk := ⟨Unit, ⟨()⟩, fun _ => v, fun _ _ => True⟩
theorem Lk.at_val {v : Value} (h : ∀ n : In W, G n.w → (execOp a.eval o).run P n.w = .ok (.value v) n.w) : (Lk.val1 v).at P o a W G :=
  ⟨fun _ _ _ _ _ => trivial, fun n hn => by
    rw [h n hn]
    exact ⟨(), rfl, trivial, Below.refl _ _⟩⟩
end
end Go.Proofs.YthchkhgimnchcaaGreat
/- Links of a chain (XChain): lists of numbers that a call hands back, answers that are settled. FOR ALL LATER STAGES. -/
namespace Go.Proofs.YthchkhgimnchcaaGreat
open Go.RowKit

/-- a list of numbers somewhere in memory -/
def lkIL (L : List Int) (n : Nat) : Lk := ⟨Option Addr × Nat, ⟨(none, 0)⟩, fun x => .slice x.1 n x.2, fun x w => IntsAt w (.slice x.1 n x.2) L⟩
theorem lkIL_at {P : Program} {o : Oper} {a : Act} {W : World} {G : World → Prop} {L : List Int} {n : Nat} {f : FuncId} {args : Array Value} (hn : n = L.length) (he : ∀ k : In W, (execOp a.eval o).run P k.w = .ok (.enter f args) k.w)
    (hc : ∀ k : In W, Calls P f args k.w fun e w' => ∃ v, e = .returned v ∧ IntsAt w' v L ∧ Below k.w.heap.size k.w w') : (lkIL L n).at P o a W G :=
  ⟨fun _ _ _ h hb => IntsAt.below h hb, fun k _ => by
    subst hn
    rw [he k]
    refine ⟨rfl, (hc k).mono ?_⟩
    rintro e w' ⟨v, rfl, h1, h2⟩
    obtain ⟨b, c, rfl⟩ := h1.form
    exact ⟨(b, c), rfl, h1, h2.mono k.h.size⟩⟩
/-- a call whose answer is settled, over what the link ahead has left -/
theorem lkSure_at {P : Program} {o : Oper} {a : Act} {W : World} {G : World → Prop} {v : Value} {f : FuncId} {args : Array Value} (he : ∀ k : In W, (execOp a.eval o).run P k.w = .ok (.enter f args) k.w)
    (hc : ∀ k : In W, G k.w → Calls P f args k.w fun e w' => e = .returned v ∧ Below k.w.heap.size k.w w') : (Lk.val1 v).at P o a W G :=
  ⟨fun _ _ _ _ _ => trivial, fun k hk => by
    rw [he k]
    refine ⟨rfl, (hc k hk).mono ?_⟩
    rintro e w' ⟨rfl, hb⟩
    exact ⟨(), rfl, trivial, hb.mono k.h.size⟩⟩
/-- two links, the one ahead of the other: asked one way round only (the other way 'beforeB' goes through every path: a great region then outgrows the kernel's memory) -/
theorem chainOf_two {md : Region.Mode} {ops : Array Oper} {i j : Nat} (h : beforeB md ops ops.size i j = true) : chainOf md ops [i, j] = true := by
  simp [chainOf, h]
end Go.Proofs.YthchkhgimnchcaaGreat
/- The document's Set (tallymanref16): the numbers of a list, rising, each once. FOR ALL LATER STAGES. (Written by wip/tools/gen_refset.py.) -/
namespace Go.Proofs.YthchkhgimnchcaaGreat
open Go.RowKit

set_option maxHeartbeats 8000000 in
set_option maxRecDepth 100000 in
theorem refSet_any (va : Value) (l : List Int) (W : World) (ha : IntsAt W va l) (hl : l.length ≤ 100000) :
    Calls Tryz.prog 29 #[va] W fun e w' => ∃ v, e = .returned v ∧ OwnI w' W.heap.size v (setL l) ∧ Below W.heap.size W w' := by
  have HA := Lib.hid ha
  obtain ⟨a, c, rfl⟩ := IntsAt.form ha
  have HLB := Lib.hid hl
  clear ha
  go_enter Tryz.func29, Tryz.ntmps29
  go_wp2
  go_loopw [3, 4, 5, 6, 7] (fun ov iv _ _ _ wr => ∃ i : Nat, i ≤ l.length ∧ iv = .int .i64 i ∧ OwnI wr W.heap.size ov (setL (l.take i)) ∧ Below W.heap.size W wr) (fun _ iv _ _ _ _ => l.length - (Go.RowKit.intOf iv).toNat)
  case atStart => exact ⟨0, by omega, rfl, OwnR.nil _ _ _ _ _, Below.refl _ _⟩
  case round =>
    obtain ⟨i, hi, rfl, ho, hB⟩ := hrel
    by_cases hlt : i < l.length
    · have hol := setL_len l i
      have hnx := setL_take l i hlt
      have ha2 := IntsAt.below HA.out hB
      obtain ⟨gx, ox, cx, e, hlc, hgx, px⟩ := ha2.spot i hlt
      cases e
      have I0 : (0 : Int) ≤ (i : Int) := by omega
      have I1 : (i : Int) < (l.length : Int) := by omega
      generalize setL (l.take i) = O at *
      generalize l[i] = x at *
      have PX := Lib.hid fun (w' : World) (h : Below wr.heap.size wr w') => (h.cell (p := ⟨gx, ox + i, none⟩) hgx).trans px
      have HNX := Lib.hid hnx
      have HB := Lib.hid hB
      have HOL := Lib.hid hol
      have hrow := OwnI.ints ho
      have HROW := Lib.hid hrow
      obtain ⟨ao, co, rfl⟩ := hrow.form
      have HIL := Lib.hid (show i < 100000 by have := HLB.out; omega)
      clear hnx hB hol ho ha2 px hrow
      go_wp2
      generalize wr = wr0 at *
      go_loopw [5, 6, 7] (fun nv dv kv wr => ∃ k : Nat, k ≤ O.length ∧ kv = .int .i64 k ∧ dv = .bool (insP x (O.take k)).2 ∧ OwnI wr wr0.heap.size nv (insP x (O.take k)).1 ∧ Below wr0.heap.size wr0 wr) (fun _ _ kv _ => O.length - (Go.RowKit.intOf kv).toNat)
      case atStart => exact ⟨0, by omega, rfl, rfl, OwnR.nil _ _ _ _ _, Below.refl _ _⟩
      case round =>
        obtain ⟨k, hk, rfl, rfl, hn, hb2⟩ := hrel
        have HN2 := Lib.hid hn
        have HB2 := Lib.hid hb2
        by_cases hk2 : k < O.length
        · obtain ⟨gy, oy, cy, e, _, hgy, py0⟩ := HROW.out.spot k hk2
          cases e
          have PY := Lib.hid fun (w' : World) (h : Below wr0.heap.size wr0 w') => (h.cell (p := ⟨gy, oy + k, none⟩) hgy).trans py0
          have K0 : (0 : Int) ≤ (k : Int) := by omega
          have K1 : (k : Int) < (O.length : Int) := by omega
          have K2 : (k : Int) ≤ 100000 := by have := HOL.out; have := HIL.out; omega
          have HK2 := Lib.hid hk2
          have px := PX.out wr hb2
          have py := PY.out wr hb2
          have hll := insP_len x O k
          obtain ⟨⟨L, d⟩, hpr⟩ : ∃ r, insP x (O.take k) = r := ⟨_, rfl⟩
          rw [hpr] at hll HN2
          rw [hpr]
          simp only at hll HN2 ⊢
          obtain ⟨y, hy⟩ : ∃ y, O[k]'hk2 = y := ⟨_, rfl⟩
          rw [hy] at py PY
          obtain ⟨an, cn, e⟩ := RowsAt.form (OwnR.rows csI_len HN2.out)
          subst e
          have HLL := Lib.hid (show L.length ≤ 200000 by have := HOL.out; have := HIL.out; split at hll <;> omega)
          clear hn hb2 hll py0
          cases d
          · by_cases hle : x ≤ y
            · by_cases hne : y = x
              · have G1 : decide (x ≤ y) = true := by simp; omega
                have G2 : (y != x) = false := by simp [hne]
                have HST := Lib.hid (show insP x (O.take (k + 1)) = (L ++ [x], true) from by rw [insP_take x O k hk2, hpr, hy]; simp [stepS, hne])
                clear hpr hy hne hle
                go_wp2
                refine wp_region_calm0 (by kernel_rfl) (by kernel_rfl) fun M => ?_
                have e0 := fun n : In M.w => n.cell (M.cell px)
                have e1 := fun n : In M.w => n.cell (M.cell py)
                repeat (go_big_quiet_step (fail))
                refine wpQuiet_nil ?_
                clear e0 e1 M px py
                intro w3 hb3
                have HB3 := Lib.hid (HB2.out.trans (hb3.mono HB2.out.size))
                have HO3 := Lib.hid (OwnR.kept HN2.out hb3)
                have px := PX.out w3 HB3.out
                have py := PY.out w3 HB3.out
                clear hb3 HB2 HN2
                go_wp2_with (at_builtin; refine app1 HO3.out HB3.out.size (by have := HLL.out; omega) rfl _ _ rfl rfl rfl ?_; intro v4 w4 o4 b4; have HO4 := Lib.hid o4; have HB4 := Lib.hid (HB3.out.trans b4); have qx := PX.out w4 HB4.out; have qy := PY.out w4 HB4.out; obtain ⟨a4, c4, e4⟩ := RowsAt.form (OwnR.rows csI_len o4); rw [List.length_append, List.length_singleton] at e4; subst e4; clear o4 b4 px py)
                refine wp_region_calm0 (by kernel_rfl) (by kernel_rfl) fun M => ?_
                have e0 := fun n : In M.w => n.cell (M.cell qx)
                have e1 := fun n : In M.w => n.cell (M.cell qy)
                repeat (go_big_quiet_step (fail))
                refine wpQuiet_nil ?_
                clear e0 e1 M qx qy
                intro w5 hb5
                have HB5 := Lib.hid (HB4.out.trans (hb5.mono HB4.out.size))
                have HO5 := Lib.hid (OwnR.kept HO4.out hb5)
                have py := PY.out w5 HB5.out
                clear hb5
                go_wp2
                go_roundw
                case rel => exact ⟨k + 1, by have := HK2.out; omega, by go_num, by rw [HST.out], by rw [HST.out]; exact HO5.out, HB5.out⟩
                case measure => have := HK2.out; simp [Go.RowKit.intOf] <;> omega
              ·
                have G1 : decide (x ≤ y) = true := by simp; omega
                have G2 : (y != x) = true := by simp [hne]
                have HST := Lib.hid (show insP x (O.take (k + 1)) = (L ++ [x] ++ [y], true) from by rw [insP_take x O k hk2, hpr, hy]; simp [stepS, hle, hne])
                clear hpr hy hne hle
                go_wp2
                refine wp_region_calm0 (by kernel_rfl) (by kernel_rfl) fun M => ?_
                have e0 := fun n : In M.w => n.cell (M.cell px)
                have e1 := fun n : In M.w => n.cell (M.cell py)
                repeat (go_big_quiet_step (fail))
                refine wpQuiet_nil ?_
                clear e0 e1 M px py
                intro w3 hb3
                have HB3 := Lib.hid (HB2.out.trans (hb3.mono HB2.out.size))
                have HO3 := Lib.hid (OwnR.kept HN2.out hb3)
                have px := PX.out w3 HB3.out
                have py := PY.out w3 HB3.out
                clear hb3 HB2 HN2
                go_wp2_with (at_builtin; refine app1 HO3.out HB3.out.size (by have := HLL.out; omega) rfl _ _ rfl rfl rfl ?_; intro v4 w4 o4 b4; have HO4 := Lib.hid o4; have HB4 := Lib.hid (HB3.out.trans b4); have qx := PX.out w4 HB4.out; have qy := PY.out w4 HB4.out; obtain ⟨a4, c4, e4⟩ := RowsAt.form (OwnR.rows csI_len o4); rw [List.length_append, List.length_singleton] at e4; subst e4; clear o4 b4 px py)
                refine wp_region_calm0 (by kernel_rfl) (by kernel_rfl) fun M => ?_
                have e0 := fun n : In M.w => n.cell (M.cell qx)
                have e1 := fun n : In M.w => n.cell (M.cell qy)
                repeat (go_big_quiet_step (fail))
                refine wpQuiet_nil ?_
                clear e0 e1 M qx qy
                intro w5 hb5
                have HB5 := Lib.hid (HB4.out.trans (hb5.mono HB4.out.size))
                have HO5 := Lib.hid (OwnR.kept HO4.out hb5)
                have py := PY.out w5 HB5.out
                clear hb5
                go_wp2_with (at_builtin; refine app1 HO5.out HB5.out.size (by have := HLL.out; simp; omega) rfl _ _ rfl rfl rfl ?_; intro v6 w6 o6 b6; have HO6 := Lib.hid o6; have HB6 := Lib.hid (HB5.out.trans b6); clear o6 b6)
                go_roundw
                case rel => exact ⟨k + 1, by have := HK2.out; omega, by go_num, by rw [HST.out], by rw [HST.out]; exact HO6.out, HB6.out⟩
                case measure => have := HK2.out; simp [Go.RowKit.intOf] <;> omega
            · by_cases hne : y = x
              · exact absurd (by omega) hle
              · have G1 : decide (x ≤ y) = false := by simp; omega
                have G2 : (y != x) = true := by simp [hne]
                have HST := Lib.hid (show insP x (O.take (k + 1)) = (L ++ [y], false) from by rw [insP_take x O k hk2, hpr, hy]; simp [stepS, hle, hne])
                clear hpr hy hne hle
                go_wp2
                refine wp_region_calm0 (by kernel_rfl) (by kernel_rfl) fun M => ?_
                have e0 := fun n : In M.w => n.cell (M.cell px)
                have e1 := fun n : In M.w => n.cell (M.cell py)
                repeat (go_big_quiet_step (fail))
                refine wpQuiet_nil ?_
                clear e0 e1 M px py
                intro w3 hb3
                have HB3 := Lib.hid (HB2.out.trans (hb3.mono HB2.out.size))
                have HO3 := Lib.hid (OwnR.kept HN2.out hb3)
                have px := PX.out w3 HB3.out
                have py := PY.out w3 HB3.out
                clear hb3 HB2 HN2
                go_wp2
                refine wp_region_calm0 (by kernel_rfl) (by kernel_rfl) fun M => ?_
                have e0 := fun n : In M.w => n.cell (M.cell px)
                have e1 := fun n : In M.w => n.cell (M.cell py)
                repeat (go_big_quiet_step (fail))
                refine wpQuiet_nil ?_
                clear e0 e1 M px py
                intro w5 hb5
                have HB5 := Lib.hid (HB3.out.trans (hb5.mono HB3.out.size))
                have HO5 := Lib.hid (OwnR.kept HO3.out hb5)
                have py := PY.out w5 HB5.out
                clear hb5
                go_wp2_with (at_builtin; refine app1 HO5.out HB5.out.size (by have := HLL.out; simp; omega) rfl _ _ rfl rfl rfl ?_; intro v6 w6 o6 b6; have HO6 := Lib.hid o6; have HB6 := Lib.hid (HB5.out.trans b6); clear o6 b6)
                go_roundw
                case rel => exact ⟨k + 1, by have := HK2.out; omega, by go_num, by rw [HST.out], by rw [HST.out]; exact HO6.out, HB6.out⟩
                case measure => have := HK2.out; simp [Go.RowKit.intOf] <;> omega
          · have hle : True := trivial
            by_cases hne : y = x
            · have G2 : (y != x) = false := by simp [hne]
              have HST := Lib.hid (show insP x (O.take (k + 1)) = (L, true) from by rw [insP_take x O k hk2, hpr, hy]; simp [stepS, hne])
              clear hpr hy hne hle
              go_wp2
              refine wp_region_calm0 (by kernel_rfl) (by kernel_rfl) fun M => ?_
              have e0 := fun n : In M.w => n.cell (M.cell px)
              have e1 := fun n : In M.w => n.cell (M.cell py)
              repeat (go_big_quiet_step (fail))
              refine wpQuiet_nil ?_
              clear e0 e1 M px py
              intro w3 hb3
              have HB3 := Lib.hid (HB2.out.trans (hb3.mono HB2.out.size))
              have HO3 := Lib.hid (OwnR.kept HN2.out hb3)
              have px := PX.out w3 HB3.out
              have py := PY.out w3 HB3.out
              clear hb3 HB2 HN2
              go_wp2
              refine wp_region_calm0 (by kernel_rfl) (by kernel_rfl) fun M => ?_
              have e0 := fun n : In M.w => n.cell (M.cell px)
              have e1 := fun n : In M.w => n.cell (M.cell py)
              repeat (go_big_quiet_step (fail))
              refine wpQuiet_nil ?_
              clear e0 e1 M px py
              intro w5 hb5
              have HB5 := Lib.hid (HB3.out.trans (hb5.mono HB3.out.size))
              have HO5 := Lib.hid (OwnR.kept HO3.out hb5)
              have py := PY.out w5 HB5.out
              clear hb5
              go_wp2
              go_roundw
              case rel => exact ⟨k + 1, by have := HK2.out; omega, by go_num, by rw [HST.out], by rw [HST.out]; exact HO5.out, HB5.out⟩
              case measure => have := HK2.out; simp [Go.RowKit.intOf] <;> omega
            ·
              have G2 : (y != x) = true := by simp [hne]
              have HST := Lib.hid (show insP x (O.take (k + 1)) = (L ++ [y], true) from by rw [insP_take x O k hk2, hpr, hy]; simp [stepS, hne])
              clear hpr hy hne hle
              go_wp2
              refine wp_region_calm0 (by kernel_rfl) (by kernel_rfl) fun M => ?_
              have e0 := fun n : In M.w => n.cell (M.cell px)
              have e1 := fun n : In M.w => n.cell (M.cell py)
              repeat (go_big_quiet_step (fail))
              refine wpQuiet_nil ?_
              clear e0 e1 M px py
              intro w3 hb3
              have HB3 := Lib.hid (HB2.out.trans (hb3.mono HB2.out.size))
              have HO3 := Lib.hid (OwnR.kept HN2.out hb3)
              have px := PX.out w3 HB3.out
              have py := PY.out w3 HB3.out
              clear hb3 HB2 HN2
              go_wp2
              refine wp_region_calm0 (by kernel_rfl) (by kernel_rfl) fun M => ?_
              have e0 := fun n : In M.w => n.cell (M.cell px)
              have e1 := fun n : In M.w => n.cell (M.cell py)
              repeat (go_big_quiet_step (fail))
              refine wpQuiet_nil ?_
              clear e0 e1 M px py
              intro w5 hb5
              have HB5 := Lib.hid (HB3.out.trans (hb5.mono HB3.out.size))
              have HO5 := Lib.hid (OwnR.kept HO3.out hb5)
              have py := PY.out w5 HB5.out
              clear hb5
              go_wp2_with (at_builtin; refine app1 HO5.out HB5.out.size (by have := HLL.out; simp; omega) rfl _ _ rfl rfl rfl ?_; intro v6 w6 o6 b6; have HO6 := Lib.hid o6; have HB6 := Lib.hid (HB5.out.trans b6); clear o6 b6)
              go_roundw
              case rel => exact ⟨k + 1, by have := HK2.out; omega, by go_num, by rw [HST.out], by rw [HST.out]; exact HO6.out, HB6.out⟩
              case measure => have := HK2.out; simp [Go.RowKit.intOf] <;> omega
        · have hke : k = O.length := by omega
          subst hke
          rw [List.take_length] at HN2 ⊢
          have hins : insS x O = if (insP x O).2 then (insP x O).1 else (insP x O).1 ++ [x] := rfl
          have hll := insP_len x O O.length
          rw [List.take_length] at hll
          obtain ⟨⟨L, d⟩, hpr⟩ : ∃ r, insP x O = r := ⟨_, rfl⟩
          rw [hpr] at hins HN2 hll
          rw [hpr]
          simp only at hins HN2 hll ⊢
          obtain ⟨an, cn, e⟩ := RowsAt.form (OwnR.rows csI_len HN2.out)
          subst e
          have HLL := Lib.hid (show L.length ≤ 200000 by have := HOL.out; have := HIL.out; split at hll <;> omega)
          have px := PX.out wr hb2
          clear hn hb2 hll hpr
          cases d
          · have HINS := Lib.hid (show setL (l.take (i + 1)) = L ++ [x] by rw [HNX.out, hins]; rfl)
            clear hins
            go_wp2_with (at_builtin; refine app1 HN2.out HB2.out.size (by have := HLL.out; omega) rfl _ _ rfl rfl rfl ?_; intro v6 w6 o6 b6; have HO6 := Lib.hid o6; have HB6 := Lib.hid (HB2.out.trans b6); clear o6 b6 px)
            go_roundw
            case rel => exact ⟨i + 1, by omega, by go_num, by rw [HINS.out]; exact HO6.out.base13 HB.out.size, HB.out.trans (HB6.out.mono HB.out.size)⟩
            case measure => simp [Go.RowKit.intOf] <;> omega
          · have HINS := Lib.hid (show setL (l.take (i + 1)) = L by rw [HNX.out, hins]; rfl)
            clear hins
            go_wp2
            go_roundw
            case rel => exact ⟨i + 1, by omega, by go_num, by rw [HINS.out]; exact HN2.out.base13 HB.out.size, HB.out.trans (HB2.out.mono HB.out.size)⟩
            case measure => simp [Go.RowKit.intOf] <;> omega
    · have hke : i = l.length := by omega
      subst hke
      rw [List.take_length] at ho
      have HO := Lib.hid ho
      clear ho
      go_wp2
      go_ret
      exact ⟨_, rfl, HO.out, hB⟩
end Go.Proofs.YthchkhgimnchcaaGreat
/- Stage 17: the document's Right, Or, And, Less, Above. -/
namespace Go.Proofs.YthchkhgimnchcaaGreat
open Go.RowKit

set_option maxHeartbeats 4000000 in
set_option maxRecDepth 100000 in
theorem refRight_any (va : Value) (l : List Int) (W : World) (ha : IntsAt W va l) (hl : l.length ≤ 1000) :
    Calls Tryz.prog 64 #[va] W fun e w' => e = .returned (.bool (rightB l)) ∧ Below W.heap.size W w' := by
  have HA := Lib.hid ha
  obtain ⟨a, c, rfl⟩ := IntsAt.form ha
  obtain ⟨t, ht⟩ : ∃ t, rightB l = t := ⟨_, rfl⟩
  rw [ht]
  have HT := Lib.hid ht
  have HL := Lib.hid hl
  clear ha ht
  go_enter Tryz.func64, Tryz.ntmps64
  go_wp2
  go_loopw [3] (fun iv wr => ∃ k : Nat, iv = .int .i64 ((k : Int) + 1) ∧ k + 1 ≤ max 1 l.length ∧ (∀ i (h : i + 1 < l.length), i < k → l[i] < l[i + 1]) ∧ Below W.heap.size W wr) (fun iv _ => l.length + 1 - (Go.RowKit.intOf iv).toNat)
  case atStart => exact ⟨0, rfl, by omega, fun i _ h => absurd h (by omega), Below.refl _ _⟩
  case round =>
    obtain ⟨k, rfl, hk, hup, hB⟩ := hrel
    have HUP := Lib.hid hup
    have HB := Lib.hid hB
    by_cases hlt : k + 1 < l.length
    · obtain ⟨g, o, _, e, hlc, _, p1⟩ := (IntsAt.below HA.out hB).spot (k + 1) hlt
      cases e
      obtain ⟨_, _, _, e, _, _, p0⟩ := (IntsAt.below HA.out hB).spot k (by omega)
      cases e
      have HLT := Lib.hid hlt
      have K0 : (0 : Int) ≤ (k : Int) := by omega
      have K1 : (k : Int) + 1 < (l.length : Int) := by omega
      have K2 : (k : Int) ≤ 1000 := by omega
      have K3 : (k : Int) < (l.length : Int) := by omega
      have hno := fun h => ris_no k hlt h
      obtain ⟨x, hx⟩ : ∃ x, l[k]'(by omega) = x := ⟨_, rfl⟩
      obtain ⟨y, hy⟩ : ∃ y, l[k + 1]'hlt = y := ⟨_, rfl⟩
      rw [hx] at p0 hno
      rw [hy] at p1 hno
      have hstep : x < y → ∀ i (h : i + 1 < l.length), i < k + 1 → l[i] < l[i + 1] := fun hxy i h hi => by
        by_cases e : i = k
        · subst e
          rw [hx, hy]
          exact hxy
        · exact hup i h (by omega)
      have HST := Lib.hid hstep
      have HNO := Lib.hid hno
      have N1 : ((k : Int) + 1).toNat = k + 1 := by omega
      clear hup hB hno hstep hx hy hk
      by_cases hle : y ≤ x
      · have HF := Lib.hid (show false = t by rw [← HT.out]; exact (decide_eq_false (HNO.out hle)).symm)
        have G := Lib.hid (show decide (y ≤ x) = true by simp; omega)
        clear hle
        go_wp2
        have g1 := G.out
        refine wp_region_calm0 (by kernel_rfl) (by kernel_rfl) fun M => ?_
        have e0 := fun n : In M.w => n.cell (M.cell p0)
        have e1 := fun n : In M.w => n.cell (M.cell p1)
        repeat (go_big_quiet_step (fail))
        refine wpQuiet_nil ?_
        clear e0 e1 M p0 p1
        intro w2 hb2
        go_wp2
        go_ret
        exact ⟨ret_b HF.out, HB.out.trans (hb2.mono HB.out.size)⟩
      · have G := Lib.hid (show decide (y ≤ x) = false by simp; omega)
        have HUP2 := Lib.hid (HST.out (by omega))
        clear hle
        go_wp2
        have g1 := G.out
        refine wp_region_calm0 (by kernel_rfl) (by kernel_rfl) fun M => ?_
        have e0 := fun n : In M.w => n.cell (M.cell p0)
        have e1 := fun n : In M.w => n.cell (M.cell p1)
        repeat (go_big_quiet_step (fail))
        refine wpQuiet_nil ?_
        clear e0 e1 M p0 p1
        intro w2 hb2
        have HB2 := Lib.hid (HB.out.trans (hb2.mono HB.out.size))
        clear hb2
        go_wp2
        go_roundw
        case rel => exact ⟨k + 1, by go_num, by have := HLT.out; omega, HUP2.out, HB2.out⟩
        case measure => have := HLT.out; simp [Go.RowKit.intOf]; omega
    · have hend : risL l := ris_adj fun i h => hup i h (by omega)
      have HF := Lib.hid (show true = t by rw [← HT.out]; exact (decide_eq_true hend).symm)
      have K1 : ¬ (k : Int) + 1 < (l.length : Int) := by omega
      clear hup hB hend hk
      go_wp2
      go_ret
      exact ⟨ret_b HF.out, HB.out⟩

end Go.Proofs.YthchkhgimnchcaaGreat
/- The walks of the document's answers for layer 7: the way. -/
namespace Go.Proofs.YthchkhgimnchcaaGreat
open Go.RowKit

def lenOf : Value → Nat
  | .slice _ n _ => n
  | _ => 0
theorem OwnP.len {w : World} {B : Nat} {e : TypeId} {v : Value} {l : List (Int × Int)} (h : OwnP w B e v l) : lenOf v = l.length := by
  rcases h.2 with ⟨rfl, h0⟩ | ⟨g, cap, cur, rfl, _⟩
  · simp [lenOf, h0]
  · rfl
theorem OwnP.not {w : World} {B : Nat} {e : TypeId} {v : Value} {l : List (Int × Int)} (h : OwnP w B e v l) {k : Nat} (hk : k < B) : v.ownBlock ≠ some k := by
  rcases h.2 with ⟨rfl, _⟩ | ⟨g, cap, cur, rfl, hg, _⟩
  · simp [Value.ownBlock]
  · simp [Value.ownBlock]
    omega
theorem hset0 {w : World} {b : Nat} {x y : Value} {t : TypeId} (h : w.heap[b]? = some (.cells #[x, y] t)) (x' : Value) : (w.setCell ⟨b, 0, none⟩ x').heap[b]? = some (.cells #[x', y] t) := by
  unfold World.setCell
  simp only [Array.getElem?_modify, if_pos, h, Option.map_some]
  rfl
theorem hset1 {w : World} {b : Nat} {x y : Value} {t : TypeId} (h : w.heap[b]? = some (.cells #[x, y] t)) (y' : Value) : (w.setCell ⟨b, 1, none⟩ y').heap[b]? = some (.cells #[x, y'] t) := by
  unfold World.setCell
  simp only [Array.getElem?_modify, if_pos, h, Option.map_some]
  rfl
theorem hkeep {w : World} {k j : Nat} {o : Obj} (h : w.heap[k]? = some o) (i : Nat) (u : Value) (hne : k ≠ j) : (w.setCell ⟨j, i, none⟩ u).heap[k]? = some o := by
  rw [Below.heap_setCell w ⟨j, i, none⟩ u k hne]
  exact h
theorem halloc {w : World} {k : Nat} {o : Obj} (h : w.heap[k]? = some o) (p : Obj) : (w.alloc p).heap[k]? = some o := (Below.heap_alloc w p k (lt_of_block h)).trans h
theorem gap_bd {a b : Int × Int} (ha : (-1000 ≤ a.1 ∧ a.1 ≤ 1000) ∧ (-1000 ≤ a.2 ∧ a.2 ≤ 1000)) (hb : (-1000 ≤ b.1 ∧ b.1 ≤ 1000) ∧ (-1000 ≤ b.2 ∧ b.2 ≤ 1000)) : gap a b ≤ 4000 := by unfold gap; omega

end Go.Proofs.YthchkhgimnchcaaGreat
/- The walks of the document's answers for layer 7: a number in a list that rises. -/
namespace Go.Proofs.YthchkhgimnchcaaGreat
open Go.RowKit

theorem putR_at (n : Int) (l : List Int) (k : Nat) (h : k < l.length) (d : Bool) : putR n (l.drop k) d = (if d = false ∧ n ≤ l[k] then [n] else []) ++ (if l[k] ≠ n then [l[k]] else []) ++ putR n (l.drop (k + 1)) (d || decide (n ≤ l[k])) := by
  rw [List.drop_eq_getElem_cons h]
  rfl

end Go.Proofs.YthchkhgimnchcaaGreat
