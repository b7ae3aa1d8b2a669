/- Texts of this proof, joined: Chain; ChainO; Lks; LockRef; Nest; NestB; NestC. -/
import Derived.Test.YtjmgokjljmmmgaaGreatBun3
import Derived.Deep.DeepCutAuto
/- A region that draws its order, in which some operations (builtin appends, new blocks, calls) stand in a chain, each behind the one before, and change memory that the region has made itself; all others only read, or call quietly; then a tail in a forced order. -/
namespace Go.Proofs.YtjmgokjljmmmgaaGreat
open Go.RowKit

section
variable {P : Program} {ops : Array Oper} {md : Region.Mode} {W : World}

/-- what new memory leaves -/
def KeptC (F : World → Prop) : Prop := ∀ w w', F w → Below w.heap.size w w' → F w'

/-- what an operation of the chain hands back, and what holds behind it -/
structure Lk where
  α : Type
  ne : Nonempty α
  val : α → Value
  R : α → World → Prop
def Lk.upon (k : Lk) (P : Program) (B : Nat) (w : World) : Result Next → Prop
  | .ok (.value v) w' => ∃ x, v = k.val x ∧ k.R x w' ∧ Below B w w'
  | .ok (.enter f args) w1 => w1 = w ∧ Calls P f args w fun e w' => ∃ x, e = .returned (k.val x) ∧ k.R x w' ∧ Below B w w'
  | _ => False
structure Lk.at (k : Lk) (P : Program) (o : Oper) (a : Act) (W : World) (G : World → Prop) : Prop where
  kept : ∀ x, KeptC (k.R x)
  run : ∀ n : In W, G n.w → k.upon P W.heap.size n.w ((execOp a.eval o).run P n.w)
theorem Lk.at.same {k : Lk} {o : Oper} {a a' : Act} {G : World → Prop} (he : execOp a'.eval o = execOp a.eval o) (h : k.at P o a W G) : k.at P o a' W G := ⟨h.kept, fun n hn => by rw [he]; exact h.run n hn⟩

structure HeldC (W : World) (G : World → Prop) (w : World) : Prop where
  below : Below W.heap.size W w
  fact : G w
  kept : KeptC G

def qOp (P : Program) (ops : Array Oper) (W : World) (N : Nat → Option Lk) (j : Nat) (K : Act → (World → Prop) → Prop) (a : Act) (G : World → Prop) : Prop :=
  match ops[j]? with
  | none => K a G
  | some o =>
    match N j with
    | none => if Region.wanted o (yielded ops a.tmps) then ∃ v, calmAt P o a W v ∧ K (a.put o.dst v) G else K (a.put o.dst undef) G
    | some k => Region.wanted o (yielded ops a.tmps) = true ∧ k.at P o a W G ∧ ∀ x, K (a.put o.dst (k.val x)) (k.R x)

variable {N : Nat → Option Lk}

theorem qOp_mono {j : Nat} {K K' : Act → (World → Prop) → Prop} {a : Act} {G : World → Prop} (h : ∀ a G, K a G → K' a G) (hh : qOp P ops W N j K a G) : qOp P ops W N j K' a G := by
  unfold qOp at *
  cases ho : ops[j]? with
  | none => simp only [ho] at hh; exact h _ _ hh
  | some o =>
    simp only [ho] at hh ⊢
    cases hn : N j with
    | none =>
      simp only [hn] at hh ⊢
      split
      · rename_i hw; simp only [hw, if_true] at hh; exact hh.imp fun v hv => ⟨hv.1, h _ _ hv.2⟩
      · rename_i hw; simp only [hw] at hh; exact h _ _ hh
    | some k =>
      simp only [hn] at hh ⊢
      exact ⟨hh.1, hh.2.1, fun x => h _ _ (hh.2.2 x)⟩

/-- What it is for a run. -/
theorem wpOp_of_qOp {i : Nat} {a : Act} {G : World → Prop} {w : World} {K : Act → (World → Prop) → Prop} {K' : Act → World → Prop} {Q : Exit → Act → World → Prop} (hz : HeldC W G w)
    (h : ∀ a G w, HeldC W G w → K a G → K' a w) (hh : qOp P ops W N i K a G) : wpOp P ops Q i K' a w := by
  obtain ⟨hw, hf, hk⟩ := hz
  unfold qOp at hh
  unfold wpOp
  cases ho : ops[i]? with
  | none => simp only [ho] at hh; exact h _ _ _ ⟨hw, hf, hk⟩ hh
  | some o =>
    simp only [ho] at hh ⊢
    cases hn : N i with
    | none =>
      simp only [hn] at hh
      split
      · rename_i hwant
        simp only [hwant, if_true] at hh
        obtain ⟨v, hv, hK⟩ := hh
        refine .inl ?_
        have h3 := hv ⟨w, hw⟩
        unfold Oper.wp
        simp only at h3
        generalize (execOp a.eval o).run P w = r at *
        cases r with
        | ok n w' =>
          cases n <;> simp only [Oper.quietUpon] at h3 <;> simp only [Oper.upon]
          case value u =>
            obtain ⟨e1, e2⟩ := h3
            rw [e1, e2]
            exact h _ _ _ ⟨hw, hf, hk⟩ hK
          case skip =>
            obtain ⟨e1, e2⟩ := h3
            rw [e1, ← e2]
            exact h _ _ _ ⟨hw, hf, hk⟩ hK
          case enter f args =>
            obtain ⟨e1, hc⟩ := h3
            rw [e1]
            refine hc.mono fun e w'' ⟨he, n, hn⟩ => ?_
            subst he
            subst hn
            exact h _ _ _ ⟨hw.trans (n.h.mono hw.size), hk _ _ hf n.h, hk⟩ hK
        | halt x w' => simp only [Oper.quietUpon] at h3
      · rename_i hwant
        simp only [hwant] at hh
        exact h _ _ _ ⟨hw, hf, hk⟩ hh
    | some k =>
      simp only [hn] at hh
      obtain ⟨hwant, hat, hK⟩ := hh
      rw [if_pos hwant]
      refine .inl ?_
      have h3 := hat.run ⟨w, hw⟩ hf
      unfold Oper.wp
      simp only at h3
      generalize (execOp a.eval o).run P w = r at *
      cases r with
      | ok n w' =>
        cases n <;> simp only [Lk.upon] at h3
        case value u =>
          obtain ⟨x, rfl, hr, hb⟩ := h3
          simp only [Oper.upon]
          exact h _ _ _ ⟨hw.trans hb, hr, hat.kept x⟩ (hK x)
        case enter f args =>
          obtain ⟨e1, hc⟩ := h3
          subst e1
          simp only [Oper.upon]
          refine hc.mono fun e w'' ⟨x, he, hr, hb⟩ => ?_
          subst he
          exact h _ _ _ ⟨hw.trans hb, hr, hat.kept x⟩ (hK x)
      | halt x w' => simp only [Lk.upon] at h3

/-- The head, in whatever order, till L. -/
def anyQ (P : Program) (md : Region.Mode) (ops : Array Oper) (W : World) (N : Nat → Option Lk) (n : Nat) (L : Array Bool → Act → (World → Prop) → Prop) : Nat → Array Bool → Act → (World → Prop) → Prop
  | 0, listed, a, G => L listed a G
  | f + 1, listed, a, G =>
    Region.ready md ops listed ≠ [] ∧ ∀ i ∈ Region.ready md ops listed, i < n ∧ qOp P ops W N i (anyQ P md ops W N n L f (listed.setIfInBounds i true)) a G

theorem wpAny_of_anyQ {n g : Nat} {L : Array Bool → Act → (World → Prop) → Prop} {Q : Exit → Act → World → Prop} (hL : ∀ listed a G w, HeldC W G w → L listed a G → wpAny P md ops Q g listed a w) :
    ∀ (f : Nat) (listed : Array Bool) (a : Act) (G : World → Prop) (w : World), HeldC W G w → anyQ P md ops W N n L f listed a G → wpAny P md ops Q (f + g) listed a w
  | 0, listed, a, G, w, hw, h => by rw [Nat.zero_add]; exact hL _ _ _ _ hw h
  | f + 1, listed, a, G, w, hw, h => by
    rw [show f + 1 + g = (f + g) + 1 by omega]
    exact ⟨fun h0 => absurd h0 h.1, fun i hi => wpOp_of_qOp hw (fun a' G' w' hw' h' => wpAny_of_anyQ hL f _ a' G' w' hw' h') (h.2 i hi).2⟩

theorem qOp_put_calm {j : Nat} {oi oj : Oper} {v : Value} (hj : ops[j]? = some oj) (hap : oi.apart ops oj = true)
    (hsi : ∀ cs b, oi.op ≠ .select cs b) (hsj : ∀ cs b, oj.op ≠ .select cs b) {K : Act → (World → Prop) → Prop} {a : Act} {G : World → Prop}
    (hy : CalmY P ops W oi v a) (h : qOp P ops W N j K (a.put oi.dst v) G) :
    qOp P ops W N j (fun a' G' => CalmY P ops W oi v a' ∧ K (a'.put oi.dst v) G') a G := by
  obtain ⟨h1, h2, h3⟩ := Oper.apart_spec hap
  unfold qOp at *
  simp only [hj] at *
  cases hn : N j with
  | none =>
    simp only [hn] at h ⊢
    rw [wanted_put oj a oi.dst v h1] at h
    split
    · rename_i hw
      simp only [hw, if_true] at h
      obtain ⟨u, hu, hK⟩ := h
      exact ⟨u, calmAt_same (execOp_put oj hsj a oi.dst v h1).symm hu, hy.put h3 hsi u, by rw [← Act.put_comm a v u h2]; exact hK⟩
    · rename_i hw
      simp only [hw] at h
      exact ⟨hy.put h3 hsi _, by rw [← Act.put_comm a v undef h2]; exact h⟩
  | some k =>
    simp only [hn] at h ⊢
    obtain ⟨hw, hs, hK⟩ := h
    exact ⟨by rw [← wanted_put oj a oi.dst v h1]; exact hw, hs.same (execOp_put oj hsj a oi.dst v h1).symm,
      fun x => ⟨hy.put h3 hsi _, by rw [← Act.put_comm a v _ h2]; exact hK x⟩⟩

theorem CalmY.qOp {i : Nat} {o : Oper} {v : Value} {a : Act} {G : World → Prop} (hi : ops[i]? = some o) (hn : N i = none) (hy : CalmY P ops W o v a) {K : Act → (World → Prop) → Prop} (h : K (a.put o.dst v) G) : qOp P ops W N i K a G := by
  unfold Go.Proofs.YtjmgokjljmmmgaaGreat.qOp
  simp only [hi, hn]
  rcases hy with ⟨hw, hv⟩ | ⟨hw, rfl⟩
  · simp only [hw, if_true]; exact ⟨v, hv, h⟩
  · simp only [hw, Bool.false_eq_true, if_false]; exact h

theorem anyQ_first {n i : Nat} {oi : Oper} {v : Value} {L : Array Bool → Act → (World → Prop) → Prop} (hi : ops[i]? = some oi) (hN : N i = none) (hsel : ∀ (j : Nat) (o : Oper) cs b, ops[j]? = some o → o.op ≠ .select cs b)
    (hh : HeadFirst md ops n) (hin : i < n) (hdone : ∀ listed a G, L listed a G → ∀ j ∈ Region.ready md ops listed, n ≤ j) :
    ∀ (f : Nat) (listed : Array Bool) (a : Act) (G : World → Prop), HeadInv md ops n listed →
      (∀ j oj, ops[j]? = some oj → j ≠ i → listed.getD j true = false → (∀ e ∈ oj.after, Region.binds md e = true → e.on ≠ i) → oi.apart ops oj = true) →
      i ∈ Region.ready md ops listed → CalmY P ops W oi v a →
      anyQ P md ops W N n L f (listed.setIfInBounds i true) (a.put oi.dst v) G → anyQ P md ops W N n L (f + 1) listed a G := by
  intro f
  induction f with
  | zero =>
    intro listed a G inv _ hr hy H
    have hun := (mem_ready.1 hr).1
    refine ⟨fun h => (by rw [h] at hr; cases hr), fun j hj => ?_⟩
    refine ⟨hh.lt inv hin hun hj, ?_⟩
    by_cases hji : j = i
    · subst hji; exact hy.qOp hi hN H
    · have := hdone _ _ _ H j (ready_mono hj hji)
      have := hh.lt inv hin hun hj
      omega
  | succ f ih =>
    intro listed a G inv hfree hr hy H
    have hun := (mem_ready.1 hr).1
    refine ⟨fun h => (by rw [h] at hr; cases hr), fun j hj => ?_⟩
    have hjn := hh.lt inv hin hun hj
    refine ⟨hjn, ?_⟩
    by_cases hji : j = i
    · subst hji; exact hy.qOp hi hN H
    · have h1 := (H.2 j (ready_mono hj hji)).2
      obtain ⟨hjun, oj, hoj, hall⟩ := mem_ready.1 hj
      have h2 := qOp_put_calm hoj (hfree j oj hoj hji hjun (not_after (j := j) hun hall rfl rfl)) (fun cs b => hsel i oi cs b hi) (fun cs b => hsel j oj cs b hoj) hy h1
      have hfree' : ∀ k ok, ops[k]? = some ok → k ≠ i → (listed.setIfInBounds j true).getD k true = false →
          (∀ e ∈ ok.after, Region.binds md e = true → e.on ≠ i) → oi.apart ops ok = true := fun k ok hk hki hun' hno => by
        refine hfree k ok hk hki ?_ hno
        by_cases hjk : j = k
        · subst hjk; exact hjun
        · rw [getD_set_ne true hjk] at hun'; exact hun'
      refine qOp_mono (fun a' G' h3 => ih (listed.setIfInBounds j true) a' G' (inv.set hj hjn) hfree' (ready_mono hr (Ne.symm hji)) h3.1 ?_) h2
      rw [Array.setIfInBounds_comm _ _ hji]
      exact h3.2

/-! ### The chain -/
/-- j waits for i -/
def beforeB (md : Region.Mode) (ops : Array Oper) : Nat → Nat → Nat → Bool
  | 0, _, _ => false
  | f + 1, i, j => match ops[j]? with
    | none => false
    | some oj => oj.after.any fun e => Region.binds md e && (e.on == i || beforeB md ops f i e.on)
theorem beforeB_edge {f i j : Nat} {oj : Oper} (hj : ops[j]? = some oj) (h : beforeB md ops (f + 1) i j = true) : ∃ e ∈ oj.after, Region.binds md e = true ∧ (e.on = i ∨ beforeB md ops f i e.on = true) := by
  unfold beforeB at h
  simp only [hj] at h
  obtain ⟨e, he, hb⟩ := Array.any_eq_true'.1 h
  simp only [Bool.and_eq_true, Bool.or_eq_true, beq_iff_eq] at hb
  exact ⟨e, he, hb⟩
theorem beforeB_listed {n i : Nat} {listed : Array Bool} (inv : HeadInv md ops n listed) : ∀ (f j : Nat), beforeB md ops f i j = true → listed.getD j false = true → listed.getD i false = true
  | 0, _, h, _ => by unfold beforeB at h; cases h
  | f + 1, j, h, hl => by
    cases hj : ops[j]? with
    | none => unfold beforeB at h; simp only [hj] at h; cases h
    | some oj =>
      obtain ⟨e, he, hb, h1⟩ := beforeB_edge hj h
      have h2 := inv.closed j oj hj hl e he hb
      rcases h1 with rfl | h1
      · exact h2
      · exact beforeB_listed inv f _ h1 h2
theorem beforeB_not {n f i j : Nat} {listed : Array Bool} (inv : HeadInv md ops n listed) (hb : beforeB md ops f i j = true) (hi : i ∈ Region.ready md ops listed) (hj : j ∈ Region.ready md ops listed) : False := by
  have hun := getD_both (mem_ready.1 hi).1
  obtain ⟨_, oj, hoj, hall⟩ := mem_ready.1 hj
  cases f with
  | zero => unfold beforeB at hb; cases hb
  | succ f =>
    obtain ⟨e, he, hbd, h1⟩ := beforeB_edge hoj hb
    have h2 := hall e he hbd
    rcases h1 with rfl | h1
    · rw [hun] at h2; cases h2
    · have := beforeB_listed inv f _ h1 h2
      rw [hun] at this; cases this
/-- of two of them one waits for the other -/
def chainOf (md : Region.Mode) (ops : Array Oper) (l : List Nat) : Bool := l.all fun i => l.all fun j => i == j || beforeB md ops ops.size i j || beforeB md ops ops.size j i
theorem chainOf_not {l : List Nat} (h : chainOf md ops l = true) {n i j : Nat} {listed : Array Bool} (inv : HeadInv md ops n listed) (hi : i ∈ l) (hj : j ∈ l) (hne : j ≠ i) (h1 : i ∈ Region.ready md ops listed) (h2 : j ∈ Region.ready md ops listed) : False := by
  unfold chainOf at h
  have h3 := List.all_eq_true.1 (List.all_eq_true.1 h i hi) j hj
  simp only [Bool.or_eq_true, beq_iff_eq] at h3
  rcases h3 with (h3 | h3) | h3
  · exact hne h3.symm
  · exact beforeB_not inv h3 h1 h2
  · exact beforeB_not inv h3 h2 h1

theorem qOp_put_own {j : Nat} {k : Lk} {oi oj : Oper} (hj : ops[j]? = some oj) (hNj : N j = none) (hap : oi.apart ops oj = true)
    (hsi : ∀ cs b, oi.op ≠ .select cs b) (hsj : ∀ cs b, oj.op ≠ .select cs b) {K : Act → (World → Prop) → Prop} {a : Act} {G : World → Prop}
    (hwi : Region.wanted oi (yielded ops a.tmps) = true) (hy : k.at P oi a W G) (h : ∀ x, qOp P ops W N j K (a.put oi.dst (k.val x)) (k.R x)) :
    qOp P ops W N j (fun a' G' => Region.wanted oi (yielded ops a'.tmps) = true ∧ k.at P oi a' W G' ∧ ∀ x, K (a'.put oi.dst (k.val x)) (k.R x)) a G := by
  obtain ⟨h1, h2, h3⟩ := Oper.apart_spec hap
  obtain ⟨x0⟩ := k.ne
  unfold qOp at *
  simp only [hj, hNj] at *
  split
  · rename_i hw
    have h' : ∀ x, ∃ u, calmAt P oj a W u ∧ K ((a.put oi.dst (k.val x)).put oj.dst u) (k.R x) := fun x => by
      have h5 := h x
      rw [wanted_put oj a oi.dst _ h1] at h5
      simp only [hw, if_true] at h5
      obtain ⟨u, hu, hK⟩ := h5
      exact ⟨u, calmAt_same (execOp_put oj hsj a oi.dst _ h1).symm hu, hK⟩
    obtain ⟨u, hu, _⟩ := h' x0
    refine ⟨u, hu, by rw [wanted_put oi a oj.dst _ h3]; exact hwi, hy.same (execOp_put oi hsi a oj.dst _ h3), fun x => ?_⟩
    obtain ⟨u', hu', hK⟩ := h' x
    have e : u' = u := upon_unique (hu' (In.self W)) (hu (In.self W))
    subst e
    rw [← Act.put_comm a _ _ h2]
    exact hK
  · rename_i hw
    refine ⟨by rw [wanted_put oi a oj.dst _ h3]; exact hwi, hy.same (execOp_put oi hsi a oj.dst _ h3), fun x => ?_⟩
    have h5 := h x
    rw [wanted_put oj a oi.dst _ h1] at h5
    simp only [hw] at h5
    rw [← Act.put_comm a _ _ h2]
    exact h5

theorem anyQ_own {n i : Nat} {k : Lk} {oi : Oper} {L : Array Bool → Act → (World → Prop) → Prop} (hi : ops[i]? = some oi) (hN : N i = some k) (hsel : ∀ (j : Nat) (o : Oper) cs b, ops[j]? = some o → o.op ≠ .select cs b)
    (hch : ∀ listed, HeadInv md ops n listed → i ∈ Region.ready md ops listed → ∀ j ∈ Region.ready md ops listed, j ≠ i → N j = none)
    (hh : HeadFirst md ops n) (hin : i < n) (hdone : ∀ listed a G, L listed a G → ∀ j ∈ Region.ready md ops listed, n ≤ j) :
    ∀ (f : Nat) (listed : Array Bool) (a : Act) (G : World → Prop), HeadInv md ops n listed →
      (∀ j oj, ops[j]? = some oj → j ≠ i → listed.getD j true = false → (∀ e ∈ oj.after, Region.binds md e = true → e.on ≠ i) → oi.apart ops oj = true) →
      i ∈ Region.ready md ops listed → Region.wanted oi (yielded ops a.tmps) = true → k.at P oi a W G →
      (∀ x, anyQ P md ops W N n L f (listed.setIfInBounds i true) (a.put oi.dst (k.val x)) (k.R x)) → anyQ P md ops W N n L (f + 1) listed a G := by
  have direct : ∀ {K : Act → (World → Prop) → Prop} {a : Act} {G : World → Prop}, Region.wanted oi (yielded ops a.tmps) = true → k.at P oi a W G → (∀ x, K (a.put oi.dst (k.val x)) (k.R x)) → qOp P ops W N i K a G := by
    intro K a G h1 h2 h3
    unfold qOp
    simp only [hi, hN]
    exact ⟨h1, h2, h3⟩
  obtain ⟨x0⟩ := k.ne
  intro f
  induction f with
  | zero =>
    intro listed a G inv _ hr hwi hy H
    have hun := (mem_ready.1 hr).1
    refine ⟨fun h => (by rw [h] at hr; cases hr), fun j hj => ?_⟩
    refine ⟨hh.lt inv hin hun hj, ?_⟩
    by_cases hji : j = i
    · subst hji; exact direct hwi hy H
    · have := hdone _ _ _ (H x0) j (ready_mono hj hji)
      have := hh.lt inv hin hun hj
      omega
  | succ f ih =>
    intro listed a G inv hfree hr hwi hy H
    have hun := (mem_ready.1 hr).1
    refine ⟨fun h => (by rw [h] at hr; cases hr), fun j hj => ?_⟩
    have hjn := hh.lt inv hin hun hj
    refine ⟨hjn, ?_⟩
    by_cases hji : j = i
    · subst hji; exact direct hwi hy H
    · obtain ⟨hjun, oj, hoj, hall⟩ := mem_ready.1 hj
      have h2 := qOp_put_own (N := N) (k := k) hoj (hch listed inv hr j hj hji) (hfree j oj hoj hji hjun (not_after (j := j) hun hall rfl rfl)) (fun cs b => hsel i oi cs b hi) (fun cs b => hsel j oj cs b hoj) hwi hy
        (fun x => ((H x).2 j (ready_mono hj hji)).2)
      have hset : ∀ k, (listed.setIfInBounds j true).getD k true = false → listed.getD k true = false := fun k hk => by
        by_cases hjk : j = k
        · subst hjk; exact hjun
        · rw [getD_set_ne true hjk] at hk; exact hk
      refine qOp_mono (fun a' G' h3 => ih (listed.setIfInBounds j true) a' G' (inv.set hj hjn) (fun k ok hk hki hun' hno => hfree k ok hk hki (hset k hun') hno)
        (ready_mono hr (Ne.symm hji)) h3.1 h3.2.1 (fun x => ?_)) h2
      rw [Array.setIfInBounds_comm _ _ hji]
      exact h3.2.2 x

/-! ### The text's order -/
def wpKq (P : Program) (ops : Array Oper) (W : World) (Q : Act → (World → Prop) → Prop) : List (Option Lk) → List Oper → Act → (World → Prop) → Prop
  | [], [], a, G => Q a G
  | none :: ks, o :: l, a, G => if Region.wanted o (yielded ops a.tmps) then ∃ v, calmAt P o a W v ∧ wpKq P ops W Q ks l (a.put o.dst v) G else wpKq P ops W Q ks l (a.put o.dst undef) G
  | some k :: ks, o :: l, a, G => Region.wanted o (yielded ops a.tmps) = true ∧ k.at P o a W G ∧ ∀ x, wpKq P ops W Q ks l (a.put o.dst (k.val x)) (k.R x)
  | _, _, _, _ => False

theorem anyQ_of_K {n g : Nat} {Lq : Act → (World → Prop) → Prop} (hsel : Region.noSelect ops = true) (hh : HeadFirst md ops n) (hle : n ≤ ops.size) (inds : List Nat) (hinds : ∀ j k, N j = some k → j ∈ inds) (hch : chainOf md ops inds = true) :
    ∀ (ks : List (Option Lk)) (l : List Oper) (k : Nat) (listed : Array Bool) (a : Act) (G : World → Prop), (∀ j, j < l.length → l[j]? = ops[k + j]?) → (∀ j kd, ks[j]? = some kd → N (k + j) = kd) → k + l.length = n →
    (∀ j, j < k → listed.getD j true = true) → HeadInv md ops n listed →
    Region.lexHead md ops g l.length k listed = true → wpKq P ops W Lq ks l a G →
    anyQ P md ops W N n (fun listed' a' G' => Region.seqB md ops g n listed' = true ∧ Lq a' G') l.length listed a G
  | [], [], k, listed, a, G, hl, hs, hk, hdone, inv, hB, h => by
    have : k = n := by simpa using hk
    subst this
    exact ⟨by simpa [Region.lexHead] using hB, h⟩
  | [], _ :: _, _, _, _, _, _, _, _, _, _, _, h => by unfold wpKq at h; exact h.elim
  | none :: _, [], _, _, _, _, _, _, _, _, _, _, h => by unfold wpKq at h; exact h.elim
  | some _ :: _, [], _, _, _, _, _, _, _, _, _, _, h => by unfold wpKq at h; exact h.elim
  | kd :: ks, o :: l, k, listed, a, G, hl, hs, hk, hdone, inv, hB, h => by
    have h0 : ops[k]? = some o := by simpa using (hl 0 (by simp)).symm
    have hkn : k < n := by simp only [List.length_cons] at hk; omega
    have hNk : N k = kd := by simpa using hs 0 kd rfl
    simp only [List.length_cons, Region.lexHead, Bool.and_eq_true] at hB
    obtain ⟨⟨hr, hf⟩, hB'⟩ := hB
    have hr' : k ∈ Region.ready md ops listed := by simpa using hr
    have hl' : ∀ j, j < l.length → l[j]? = ops[k + 1 + j]? := fun j hj => by have := hl (j + 1) (by simp; omega); simpa [Nat.add_assoc, Nat.add_comm 1 j] using this
    have hs' : ∀ j kd', ks[j]? = some kd' → N (k + 1 + j) = kd' := fun j kd' hj => by have := hs (j + 1) kd' (by simpa using hj); simpa [Nat.add_assoc, Nat.add_comm 1 j] using this
    have hk' : k + 1 + l.length = n := by simp only [List.length_cons] at hk; omega
    have hdone' : ∀ j, j < k + 1 → (listed.setIfInBounds k true).getD j true = true := by
      intro j hj
      by_cases hjk : k = j
      · subst hjk
        have : k < listed.size := by rw [inv.size]; omega
        simp [this]
      · rw [getD_set_ne true hjk]; exact hdone j (by omega)
    cases kd with
    | none =>
      unfold wpKq at h
      obtain ⟨v, hy, hK⟩ : ∃ v, CalmY P ops W o v a ∧ wpKq P ops W Lq ks l (a.put o.dst v) G := by
        by_cases hw : Region.wanted o (yielded ops a.tmps) = true
        · simp only [hw, if_true] at h
          obtain ⟨v, hv, hK⟩ := h
          exact ⟨v, .inl ⟨hw, hv⟩, hK⟩
        · simp only [hw] at h
          exact ⟨undef, .inr ⟨by simpa using hw, rfl⟩, h⟩
      refine anyQ_first h0 hNk (Region.noSelect_spec hsel) hh hkn (fun listed' a' G' hL => seqB_ready hL.1) l.length listed a G inv (Region.free_spec h0 hf) hr' hy ?_
      exact anyQ_of_K hsel hh hle inds hinds hch ks l (k + 1) _ _ _ hl' hs' hk' hdone' (inv.set hr' hkn) hB' hK
    | some kk =>
      unfold wpKq at h
      obtain ⟨hw, hp, hrest⟩ := h
      refine anyQ_own h0 hNk (Region.noSelect_spec hsel) (fun listed' inv' h1 j hj hne => ?_) hh hkn (fun listed' a' G' hL => seqB_ready hL.1) l.length listed a G inv (Region.free_spec h0 hf) hr' hw hp (fun x => ?_)
      · cases hNj : N j with
        | none => rfl
        | some kj => exact (chainOf_not hch inv' (hinds k kk hNk) (hinds j kj hNj) hne h1 hj).elim
      · exact anyQ_of_K hsel hh hle inds hinds hch ks l (k + 1) _ _ _ hl' hs' hk' hdone' (inv.set hr' hkn) hB' (hrest x)

/-- how a head is told: k operations that read or call; or one of the chain -/
inductive Sq
  | calm (k : Nat)
  | own (k : Lk)
def kindsQ : List Sq → List (Option Lk)
  | [] => []
  | .calm k :: ss => List.replicate k none ++ kindsQ ss
  | .own k :: ss => some k :: kindsQ ss
def placesQ : Nat → List Sq → List Nat
  | _, [] => []
  | i, .calm k :: ss => placesQ (i + k) ss
  | i, .own _ :: ss => i :: placesQ (i + 1) ss
theorem placesQ_mem : ∀ (ss : List Sq) (i j : Nat) (k : Lk), (kindsQ ss)[j]? = some (some k) → i + j ∈ placesQ i ss
  | [], _, _, _, h => by simp [kindsQ] at h
  | .calm m :: ss, i, j, k, h => by
    unfold kindsQ at h
    unfold placesQ
    by_cases hj : j < m
    · rw [List.getElem?_append_left (by simpa using hj)] at h
      simp [hj] at h
    · rw [List.getElem?_append_right (by simpa using hj)] at h
      have := placesQ_mem ss (i + m) (j - m) k (by simpa using h)
      rwa [show i + m + (j - m) = i + j by omega] at this
  | .own m :: ss, i, 0, k, h => by unfold placesQ; exact List.mem_cons_self
  | .own m :: ss, i, j + 1, k, h => by
    unfold kindsQ at h
    unfold placesQ
    have := placesQ_mem ss (i + 1) j k (by simpa using h)
    rw [show i + 1 + j = i + (j + 1) by omega] at this
    exact List.mem_cons_of_mem _ this
def wpMq (P : Program) (ops : Array Oper) (W : World) (Q : Act → (World → Prop) → Prop) : List Sq → List Oper → Act → (World → Prop) → Prop
  | [], l, a, G => l = [] ∧ Q a G
  | .calm k :: ss, l, a, G => k ≤ l.length ∧ ∀ M : In W, wpQuiet P ops (fun w' => ∃ n : In M.w, w' = n.w) (fun a' => wpMq P ops W Q ss (l.drop k) a' G) (l.take k) a
  | .own k :: ss, l, a, G =>
    match l with
    | [] => False
    | o :: l => Region.wanted o (yielded ops a.tmps) = true ∧ k.at P o a W G ∧ ∀ x, ∀ a', a' = a.put o.dst (k.val x) → wpMq P ops W Q ss l a' (k.R x)
theorem wpKq_of_calm {Q : Act → (World → Prop) → Prop} (ks : List (Option Lk)) : ∀ (l l2 : List Oper) (a : Act) (G : World → Prop), wpCalm P ops W (fun a' => wpKq P ops W Q ks l2 a' G) l a → wpKq P ops W Q (List.replicate l.length none ++ ks) (l ++ l2) a G
  | [], l2, a, G, h => by simpa [wpCalm] using h
  | o :: l, l2, a, G, h => by
    rw [List.length_cons, List.replicate_succ, List.cons_append, List.cons_append]
    unfold wpKq
    unfold wpCalm at h
    split
    · rename_i hw
      simp only [hw, if_true] at h
      exact h.imp fun v hv => ⟨hv.1, wpKq_of_calm ks l l2 _ _ hv.2⟩
    · rename_i hw
      simp only [hw] at h
      exact wpKq_of_calm ks l l2 _ _ h
theorem wpKq_of_mix {Q : Act → (World → Prop) → Prop} : ∀ (ss : List Sq) (l : List Oper) (a : Act) (G : World → Prop), wpMq P ops W Q ss l a G → wpKq P ops W Q (kindsQ ss) l a G
  | [], l, a, G, h => by
    obtain ⟨rfl, h⟩ := h
    unfold kindsQ wpKq
    exact h
  | .calm k :: ss, l, a, G, h => by
    obtain ⟨hk, h⟩ := h
    have h2 := wpCalm_of_quiet (P := P) (ops := ops) (W := W) _ _ h
    have h3 : wpCalm P ops W (fun a' => wpKq P ops W Q (kindsQ ss) (l.drop k) a' G) (l.take k) a := by
      have mono : ∀ (l : List Oper) (a : Act) {Q1 Q2 : Act → Prop}, (∀ a, Q1 a → Q2 a) → wpCalm P ops W Q1 l a → wpCalm P ops W Q2 l a := by
        intro l
        induction l with
        | nil => intro a Q1 Q2 hq h; exact hq _ h
        | cons o l ih =>
          intro a Q1 Q2 hq h
          unfold wpCalm at h ⊢
          split
          · rename_i hw
            simp only [hw, if_true] at h
            exact h.imp fun v hv => ⟨hv.1, ih _ hq hv.2⟩
          · rename_i hw
            simp only [hw] at h
            exact ih _ hq h
      exact mono _ _ (fun a' ha' => wpKq_of_mix ss _ a' G ha') h2
    have h4 := wpKq_of_calm (kindsQ ss) (l.take k) (l.drop k) a G h3
    rw [List.take_append_drop, List.length_take, Nat.min_eq_left hk] at h4
    exact h4
  | .own k :: ss, [], a, G, h => by unfold wpMq at h; exact h.elim
  | .own k :: ss, o :: l, a, G, h => by
    unfold wpMq at h
    unfold kindsQ wpKq
    exact ⟨h.1, h.2.1, fun x => wpKq_of_mix ss l _ _ (h.2.2 x _ rfl)⟩

/-- THE LAW. -/
theorem wp_region_chain {id : Nat} {Q : Exit → Act → World → Prop} {a : Act} {l : List Oper} (n : Nat) (segs : List Sq) (inds : List Nat) (hp : placesQ 0 segs = inds) (hm : P.follows .mixedOrders = true)
    (hle : n ≤ l.length) (hB : calmB .any l.toArray n = true) (hC : chainOf .any l.toArray inds = true)
    (h : wpMq P l.toArray W (fun a'' G => ∀ w', Below W.heap.size W w' → G w' → wpList P l.toArray Q (l.drop n) a'' w') segs (l.take n) a (fun _ => True)) :
    (Code.region id l.toArray true).wp P Q a W := by
  unfold calmB at hB
  simp only [Bool.and_eq_true, Bool.or_eq_true, beq_iff_eq, decide_eq_true_eq] at hB
  obtain ⟨⟨hsel, hh0⟩, hlex⟩ := hB
  have hh : HeadFirst .any l.toArray n := hh0.imp (fun x => x) fun x => ⟨x.1.2, x.2, x.1.1⟩
  have hsz : l.toArray.size = l.length := by simp
  have htl : (l.take n).length = n := by simp; omega
  have inv0 : HeadInv .any l.toArray n (Array.replicate l.toArray.size false) :=
    ⟨by simp, fun j oj _ hl => (by rw [getD_replicate_false] at hl; cases hl), fun t _ ht => getD_in (by simpa using ht) (getD_replicate_false _ _)⟩
  have H := anyQ_of_K (P := P) (W := W) (md := .any) (N := fun j => ((kindsQ segs)[j]?).getD none) (g := l.toArray.size - n) hsel hh (by simpa using hle) inds
    (fun j k hj => by
      rw [← hp]
      cases hk : (kindsQ segs)[j]? with
      | none => simp [hk] at hj
      | some kd =>
        simp [hk] at hj
        subst hj
        simpa using placesQ_mem segs 0 j k hk) hC (kindsQ segs) (l.take n) 0 _ a (fun _ => True)
    (fun j hj => by
      rw [htl] at hj
      simp [hj]) (fun j kd hj => by simp [hj]) (by omega) (fun j hj => by omega) inv0 (by rw [htl]; exact hlex) (wpKq_of_mix _ _ _ _ h)
  refine wp_region_any hm ?_
  have h6 := wpAny_of_anyQ (Q := Q) (g := l.toArray.size - n) (fun listed a' G w' hw' hL => by
    have hdl : (l.drop n).length = l.toArray.size - n := by simp
    have := wpAny_of_seq (P := P) (md := .any) (Q' := Q) (l.drop n) n listed a' w' (fun j => by simp [List.getElem?_drop]) (by rw [hdl]; exact hL.1) (hL.2 w' hw'.below hw'.fact)
    rwa [hdl] at this) _ _ _ _ W.drew ⟨(Below.refl _ _).drew, trivial, fun _ _ _ _ => trivial⟩ H
  rw [htl, show n + (l.toArray.size - n) = l.toArray.size by omega] at h6
  exact h6
end
end Go.Proofs.YtjmgokjljmmmgaaGreat
/- Lists of one's own that a region gathers by appends in a chain. -/
namespace Go.Proofs.YtjmgokjljmmmgaaGreat
open Go.RowKit

/-- a list of n things in memory that is not older than W -/
def Lk.list {α : Type} (B : Nat) (K : Nat) (cs : α → List Value) (n : Nat) (l : List α) : Lk :=
  ⟨Option Addr × Nat, ⟨(none, 0)⟩, fun x => .slice x.1 n x.2, fun x w => OwnO w K cs (.slice x.1 n x.2) l ∧ ∀ g, (Value.slice x.1 n x.2).ownBlock = some g → B ≤ g⟩
theorem Lk.list_kept {α : Type} {B : Nat} {K n : Nat} {cs : α → List Value} {l : List α} (x : (Lk.list B K cs n l).α) : KeptC ((Lk.list B K cs n l).R x) := fun _ _ h hb => ⟨h.1.kept hb, h.2⟩
section
variable {P : Program} {o : Oper} {a : Act} {W : World} {G : World → Prop} {α : Type} {K : Nat} {cs : α → List Value}
theorem Lk.at_empty {B : Nat} (hB : W.heap.size = B) {e : TypeId} (he : ∀ n : In W, (execOp a.eval o).run P n.w = .ok (.value (.slice (some ⟨n.w.heap.size, 0, none⟩) 0 0)) (n.w.alloc (.cells #[] e))) : (Lk.list B K cs 0 []).at P o a W G :=
  ⟨Lk.list_kept, fun n _ => by
    subst hB
    rw [he n]
    refine ⟨(some ⟨n.w.heap.size, 0, none⟩, 0), rfl, ⟨.inr ⟨n.w.heap.size, 0, 0, rfl, by simp, Nat.le_refl _, by simp [maxLen], fun j hj => ?_, fun j hj => ?_⟩, fun g hg => ?_⟩, (Below.refl W.heap.size _).alloc n.h.size _⟩
    · simp at hj
    · simp at hj
    · simp [Value.ownBlock] at hg
      have := n.h.size
      omega⟩
theorem Lk.at_append {B : Nat} (hB : W.heap.size = B) (s x : Operand) (t tx : TypeId) (ho : o.op = .call { callee := .builtin .append, args := #[s, x], argTypes := #[t, tx] })
    (hK : ∀ x, (cs x).length = K) (hK0 : 0 < K) (hone : ∀ x, ∀ u ∈ cs x, u.oneCell' = true) (e ex : TypeId) (i : TypeInfo) (z : Value) (ht : P.underlying t = some (.slice e)) (htx : P.underlying tx = some (.slice ex)) (hi : P.info? e = some i) (hz : i.zero = some z) (hsize : i.size = K) (hzs : z.cells.size = K)
    (v : Value) (l : List α) (hs : a.eval s = v) (vx : Value) (m : List α) (hvx : a.eval x = vx) (n : Nat) (hn : n = l.length + m.length) (hlen : l.length + m.length ≤ maxLen) (hbytes : (l.length + m.length) * i.bytes ≤ 140737488355328)
    (hG : ∀ n : In W, G n.w → (OwnO n.w K cs v l ∧ ∀ g, v.ownBlock = some g → B ≤ g) ∧ RowsAt n.w K cs vx m) : (Lk.list B K cs n (l ++ m)).at P o a W G :=
  ⟨Lk.list_kept, fun w hw => by
    subst hn
    subst hB
    obtain ⟨⟨h1, h2⟩, h3⟩ := hG w hw
    obtain ⟨v', w', hrun, h4, h5, h6⟩ := run_append_o (P := P) hK hK0 hone t tx o.type e ex i z ht htx hi hz hsize hzs h1 vx m h3 hlen hbytes
    have he : (execOp a.eval o).run P w.w = .ok (.value v') w' := by
      simp [execOp, ho, resolve, invoke, builtin, hs, hvx, hrun, Result.andThen]
    rw [he]
    obtain ⟨b, c, rfl⟩ := h4.form
    have hb : ∀ g, (Value.slice b (l ++ m).length c).ownBlock = some g → W.heap.size ≤ g := fun g hg => by
      rcases h6 with h6 | h6
      · rw [h6] at hg
        exact h2 g hg
      · rw [h6] at hg
        cases hg
        exact w.h.size
    rw [List.length_append] at h4 hb
    exact ⟨(b, c), by rw [List.length_append]; rfl, ⟨h4, hb⟩, (Below.refl _ _).grown h5 w.h.size h2⟩⟩
/-- a call that hands back a list of new memory -/
theorem Lk.at_call {B : Nat} (hB : W.heap.size = B) {f : FuncId} {args : Array Value} (n : Nat) (l : List α) (hn : n = l.length) (he : ∀ n : In W, (execOp a.eval o).run P n.w = .ok (.enter f args) n.w)
    (hc : ∀ n : In W, Calls P f args n.w fun e w' => ∃ v, e = .returned v ∧ OwnO w' K cs v l ∧ (∀ g, v.ownBlock = some g → n.w.heap.size ≤ g) ∧ Below n.w.heap.size n.w w') : (Lk.list B K cs n l).at P o a W G :=
  ⟨Lk.list_kept, fun n _ => by
    subst hB
    subst hn
    rw [he n]
    refine ⟨rfl, (hc n).mono ?_⟩
    rintro e w' ⟨v, rfl, h1, h2, h3⟩
    obtain ⟨b, c, rfl⟩ := h1.form
    exact ⟨(b, c), rfl, ⟨h1, fun g hg => Nat.le_trans n.h.size (h2 g hg)⟩, h3.mono n.h.size⟩⟩
/-- a value that is settled -/
def Lk.val1 (v : Value) : Lk := ⟨Unit, ⟨()⟩, fun _ => v, fun _ _ => True⟩
theorem Lk.at_val {v : Value} (h : ∀ n : In W, G n.w → (execOp a.eval o).run P n.w = .ok (.value v) n.w) : (Lk.val1 v).at P o a W G :=
  ⟨fun _ _ _ _ _ => trivial, fun n hn => by
    rw [h n hn]
    exact ⟨(), rfl, trivial, Below.refl _ _⟩⟩
end
end Go.Proofs.YtjmgokjljmmmgaaGreat
/- Links of a chain (XChain): lists of numbers that a call hands back, answers that are settled. FOR ALL LATER STAGES. -/
namespace Go.Proofs.YtjmgokjljmmmgaaGreat
open Go.RowKit

/-- a list of numbers somewhere in memory -/
def lkIL (L : List Int) (n : Nat) : Lk := ⟨Option Addr × Nat, ⟨(none, 0)⟩, fun x => .slice x.1 n x.2, fun x w => IntsAt w (.slice x.1 n x.2) L⟩
theorem lkIL_at {P : Program} {o : Oper} {a : Act} {W : World} {G : World → Prop} {L : List Int} {n : Nat} {f : FuncId} {args : Array Value} (hn : n = L.length) (he : ∀ k : In W, (execOp a.eval o).run P k.w = .ok (.enter f args) k.w)
    (hc : ∀ k : In W, Calls P f args k.w fun e w' => ∃ v, e = .returned v ∧ IntsAt w' v L ∧ Below k.w.heap.size k.w w') : (lkIL L n).at P o a W G :=
  ⟨fun _ _ _ h hb => IntsAt.below h hb, fun k _ => by
    subst hn
    rw [he k]
    refine ⟨rfl, (hc k).mono ?_⟩
    rintro e w' ⟨v, rfl, h1, h2⟩
    obtain ⟨b, c, rfl⟩ := h1.form
    exact ⟨(b, c), rfl, h1, h2.mono k.h.size⟩⟩
/-- a call whose answer is settled, over what the link ahead has left -/
theorem lkSure_at {P : Program} {o : Oper} {a : Act} {W : World} {G : World → Prop} {v : Value} {f : FuncId} {args : Array Value} (he : ∀ k : In W, (execOp a.eval o).run P k.w = .ok (.enter f args) k.w)
    (hc : ∀ k : In W, G k.w → Calls P f args k.w fun e w' => e = .returned v ∧ Below k.w.heap.size k.w w') : (Lk.val1 v).at P o a W G :=
  ⟨fun _ _ _ _ _ => trivial, fun k hk => by
    rw [he k]
    refine ⟨rfl, (hc k hk).mono ?_⟩
    rintro e w' ⟨rfl, hb⟩
    exact ⟨(), rfl, trivial, hb.mono k.h.size⟩⟩
/-- two links, the one ahead of the other: asked one way round only (the other way 'beforeB' goes through every path: a great region then outgrows the kernel's memory) -/
theorem chainOf_two {md : Region.Mode} {ops : Array Oper} {i j : Nat} (h : beforeB md ops ops.size i j = true) : chainOf md ops [i, j] = true := by
  simp [chainOf, h]
end Go.Proofs.YtjmgokjljmmmgaaGreat
/- Stage 19: the document's Ask, Grant, Leave, Same. -/
namespace Go.Proofs.YtjmgokjljmmmgaaGreat
open Go.RowKit

/-- a lock as a value: its ID, its holder, those that wait -/
abbrev lkv (id h : Int) (v : Value) : Value := .agg #[.int .i64 id, .int .i64 h, v]
def askL (h : Int) (L : List Int) (t : Int) : List Int × Int := if t < 1 then (L, 1) else if h = t ∨ t ∈ L then (L, 6) else if 64 ≤ L.length then (L, 9) else (L ++ [t], 0)
def grantL (h : Int) (L : List Int) : Int × List Int × Int × Bool := if h = 0 then (match L with | [] => (h, L, 0, false) | x :: t => (x, t, x, true)) else (h, L, 0, false)
def leaveL (h : Int) (L : List Int) (t : Int) : Int × List Int × Int := if 0 < t ∧ h = t then (0, L, 2) else if wasF L t then (h, dropF L t, 1) else (h, L, 0)

/-- a box that holds a lock, and one for the answer behind it -/
structure Two19 (W : World) (id h : Int) (v : Value) (w : World) : Prop where
  box : Blk w W.heap.size [.int .i64 id, .int .i64 h, v]
  ans : Blk w (W.heap.size + 1) [.int .i64 0, .int .i64 0, .slice none 0 0]
  below : Below W.heap.size W w
theorem two19_new (W : World) (id h : Int) (v : Value) : Two19 W id h v ((W.alloc (.cells #[.int .i64 id, .int .i64 h, v] 50)).alloc (.cells #[.int .i64 0, .int .i64 0, .slice none 0 0] 50)) := by
  have a1 := (Below.refl W.heap.size W).alloc (Nat.le_refl _) (.cells #[.int .i64 id, .int .i64 h, v] 50)
  have hX0 := Blk.new W [.int .i64 id, .int .i64 h, v] 50
  have a2 := (Below.refl (W.alloc (.cells #[.int .i64 id, .int .i64 h, v] 50)).heap.size _).alloc (Nat.le_refl _) (.cells #[.int .i64 0, .int .i64 0, .slice none 0 0] 50)
  have hY := Blk.new (W.alloc (.cells #[.int .i64 id, .int .i64 h, v] 50)) [.int .i64 0, .int .i64 0, .slice none 0 0] 50
  rw [show (W.alloc (.cells #[.int .i64 id, .int .i64 h, v] 50)).heap.size = W.heap.size + 1 by simp] at hY
  exact ⟨hX0.kept a2, hY, a1.trans (a2.mono a1.size)⟩
/-- the answer is written -/
theorem Two19.put {W w : World} {id h id' h' : Int} {v v' : Value} (T : Two19 W id h v w) :
    Blk (((w.setCell ⟨W.heap.size + 1, 0, none⟩ (.int .i64 id')).setCell ⟨W.heap.size + 1, 1, none⟩ (.int .i64 h')).setCell ⟨W.heap.size + 1, 2, none⟩ v') (W.heap.size + 1) [.int .i64 id', .int .i64 h', v'] ∧
    Below W.heap.size W (((w.setCell ⟨W.heap.size + 1, 0, none⟩ (.int .i64 id')).setCell ⟨W.heap.size + 1, 1, none⟩ (.int .i64 h')).setCell ⟨W.heap.size + 1, 2, none⟩ v') :=
  ⟨((T.ans.set 0 (.int .i64 id')).set 1 (.int .i64 h')).set 2 v', ((T.below.setCell (p := ⟨W.heap.size + 1, 0, none⟩) (by simp) (.int .i64 id')).setCell (p := ⟨W.heap.size + 1, 1, none⟩) (by simp) (.int .i64 h')).setCell (p := ⟨W.heap.size + 1, 2, none⟩) (by simp) v'⟩
theorem Two19.hold {W w : World} {id h h' : Int} {v : Value} (T : Two19 W id h v w) : Two19 W id h' v (w.setCell ⟨W.heap.size, 1, none⟩ (.int .i64 h')) :=
  ⟨T.box.set 1 (.int .i64 h'), T.ans.away _ _ (by simp), T.below.setCell (p := ⟨W.heap.size, 1, none⟩) (by simp) _⟩
theorem Two19.wait {W w : World} {id h : Int} {v v' : Value} (T : Two19 W id h v w) : Two19 W id h v' (w.setCell ⟨W.heap.size, 2, none⟩ v') :=
  ⟨T.box.set 2 v', T.ans.away _ _ (by simp), T.below.setCell (p := ⟨W.heap.size, 2, none⟩) (by simp) _⟩
theorem Two19.kept {W w w' : World} {id h : Int} {v : Value} (T : Two19 W id h v w) (hb : Below w.heap.size w w') : Two19 W id h v w' := ⟨T.box.kept hb, T.ans.kept hb, T.below.trans (hb.mono T.below.size)⟩

end Go.Proofs.YtjmgokjljmmmgaaGreat
/- Stage 20: lists of locks and of seats (structs that hold a list of numbers each); a table as a value; the document's small looks. -/
namespace Go.Proofs.YtjmgokjljmmmgaaGreat
open Go.RowKit

/-- a lock in a list: its own list's header, and what stands there -/
structure Lr where
  id : Int
  holder : Int
  a : Option Addr
  c : Nat
  wait : List Int
deriving Inhabited
structure Sr where
  token : Int
  got : Int
  a : Option Addr
  c : Nat
  want : List Int
deriving Inhabited
abbrev Lr.v (x : Lr) : Value := .slice x.a x.wait.length x.c
abbrev Sr.v (x : Sr) : Value := .slice x.a x.want.length x.c
def csL (x : Lr) : List Value := [.int .i64 x.id, .int .i64 x.holder, x.v]
def csSt (x : Sr) : List Value := [.int .i64 x.token, .int .i64 x.got, x.v]
theorem csL_len (x : Lr) : (csL x).length = 3 := rfl
theorem csSt_len (x : Sr) : (csSt x).length = 3 := rfl
theorem csL_one (x : Lr) : ∀ u ∈ csL x, u.oneCell' = true := by
  intro u hu
  simp [csL] at hu
  rcases hu with rfl | rfl | rfl <;> rfl
theorem csSt_one (x : Sr) : ∀ u ∈ csSt x, u.oneCell' = true := by
  intro u hu
  simp [csSt] at hu
  rcases hu with rfl | rfl | rfl <;> rfl
structure LocksAt (w : World) (v : Value) (l : List Lr) : Prop where
  rows : RowsAt w 3 csL v l
  each : ∀ x ∈ l, IntsAt w x.v x.wait
structure SeatsAt (w : World) (v : Value) (l : List Sr) : Prop where
  rows : RowsAt w 3 csSt v l
  each : ∀ x ∈ l, IntsAt w x.v x.want
theorem LocksAt.below {w w' : World} {v : Value} {l : List Lr} (h : LocksAt w v l) (hb : Below w.heap.size w w') : LocksAt w' v l := ⟨RowsAt.kept h.rows hb, fun x hx => (h.each x hx).below hb⟩
theorem SeatsAt.below {w w' : World} {v : Value} {l : List Sr} (h : SeatsAt w v l) (hb : Below w.heap.size w w') : SeatsAt w' v l := ⟨RowsAt.kept h.rows hb, fun x hx => (h.each x hx).below hb⟩
theorem RowsAt.atL {w : World} {v : Value} {l : List Lr} (h : RowsAt w 3 csL v l) (k : Nat) (hk : k < l.length) :
    ∃ g o c, v = .slice (some ⟨g, o, none⟩) l.length c ∧ l.length ≤ c ∧ g < w.heap.size ∧ w.cell? ⟨g, o + k * 3, none⟩ = some (.int .i64 l[k].id) ∧ w.cell? ⟨g, o + k * 3 + 1, none⟩ = some (.int .i64 l[k].holder) ∧ w.cell? ⟨g, o + k * 3 + 2, none⟩ = some l[k].v := by
  obtain ⟨g, o, c, e, hc, hg, hx⟩ := h.spot k hk
  exact ⟨g, o, c, e, hc, hg, hx 0 _ rfl, hx 1 _ rfl, hx 2 _ rfl⟩
theorem RowsAt.atS {w : World} {v : Value} {l : List Sr} (h : RowsAt w 3 csSt v l) (k : Nat) (hk : k < l.length) :
    ∃ g o c, v = .slice (some ⟨g, o, none⟩) l.length c ∧ l.length ≤ c ∧ g < w.heap.size ∧ w.cell? ⟨g, o + k * 3, none⟩ = some (.int .i64 l[k].token) ∧ w.cell? ⟨g, o + k * 3 + 1, none⟩ = some (.int .i64 l[k].got) ∧ w.cell? ⟨g, o + k * 3 + 2, none⟩ = some l[k].v := by
  obtain ⟨g, o, c, e, hc, hg, hx⟩ := h.spot k hk
  exact ⟨g, o, c, e, hc, hg, hx 0 _ rfl, hx 1 _ rfl, hx 2 _ rfl⟩
/-- a table as a value: its locks, its seats -/
abbrev tbv (vl vs : Value) : Value := .agg #[vl, vs]
def idsL (l : List Lr) : List Int := l.map Lr.id
def toksS (l : List Sr) : List Int := l.map Sr.token
theorem map_found {α : Type} (f : α → Int) {l : List α} {k : Nat} (hk : k < l.length) {n : Int} (he : f l[k] = n) (hno : n ∉ (l.take k).map f) : plcL (l.map f) n = (k : Int) := by
  have h1 : k < (l.map f).length := by simpa using hk
  refine plc_found h1 (by simpa using he) ?_
  rw [← List.map_take]
  exact hno
theorem map_next {α : Type} (f : α → Int) {l : List α} {k : Nat} (hk : k < l.length) {n : Int} (he : f l[k] ≠ n) (hno : n ∉ (l.take k).map f) : n ∉ (l.take (k + 1)).map f := by
  rw [List.take_succ_eq_append_getElem hk, List.map_append]
  intro hm
  rcases List.mem_append.1 hm with hm | hm
  · exact hno hm
  · exact he (by simpa using hm : n = f l[k]).symm

end Go.Proofs.YtjmgokjljmmmgaaGreat
/- Stage 20: the document's Tokens, Has. -/
namespace Go.Proofs.YtjmgokjljmmmgaaGreat
open Go.RowKit

/-- the tokens of a table (P2004); with full, of those that have all that they want -/
def tokensL (S : List Sr) (full : Bool) : List Int := (S.filter fun x => !full || decide (x.got = (x.want.length : Int))).map Sr.token
theorem tokensL_next (S : List Sr) (full : Bool) (i : Nat) (h : i < S.length) :
    tokensL (S.take (i + 1)) full = tokensL (S.take i) full ++ (if (!full || decide (S[i].got = (S[i].want.length : Int))) = true then [S[i].token] else []) := by
  unfold tokensL
  rw [List.take_succ_eq_append_getElem h, List.filter_append, List.map_append]
  congr 1
  by_cases hx : (!full || decide (S[i].got = (S[i].want.length : Int))) = true
  · rw [if_pos hx]; simp only [List.filter_cons, hx, if_true]; rfl
  · rw [if_neg hx]; simp only [List.filter_cons, hx]; rfl
theorem tokensL_len (S : List Sr) (full : Bool) : (tokensL S full).length ≤ S.length := by
  unfold tokensL
  rw [List.length_map]
  exact List.length_filter_le _ _

end Go.Proofs.YtjmgokjljmmmgaaGreat
/- Stage 20: the document's Has. -/
namespace Go.Proofs.YtjmgokjljmmmgaaGreat
open Go.RowKit

/-- the seat of a token -/
def seatL (S : List Sr) (t : Int) : Option Sr := if t ∈ toksS S then S[(toksS S).idxOf t]? else none
theorem seatL_none {S : List Sr} {t : Int} (h : t ∉ toksS S) : seatL S t = none := if_neg h
theorem seatL_some {S : List Sr} {t : Int} (h : t ∈ toksS S) : ∃ (k : Nat) (hk : k < S.length), plcL (toksS S) t = (k : Int) ∧ S[k].token = t ∧ seatL S t = some S[k] := by
  obtain ⟨h1, h2, h3⟩ := plc_at h
  have h4 : (toksS S).idxOf t < S.length := by simpa [toksS] using h2
  refine ⟨_, h4, h1, ?_, ?_⟩
  · have : (toksS S)[(toksS S).idxOf t]? = (S[(toksS S).idxOf t]?).map Sr.token := by unfold toksS; exact List.getElem?_map ..
    rw [this, List.getElem?_eq_getElem h4] at h3
    exact Option.some.inj h3
  · unfold seatL
    rw [if_pos h, List.getElem?_eq_getElem h4]
/-- does a token hold an aisle -/
def hasL (S : List Sr) (t n : Int) : Bool :=
  match seatL S t with
  | some x => inL (x.want.take x.got.toNat) n
  | none => false
/-- a seat in order, of few aisles -/
def SrOk (x : Sr) : Prop := 0 ≤ x.got ∧ x.got ≤ (x.want.length : Int) ∧ x.want.length ≤ 1000

end Go.Proofs.YtjmgokjljmmmgaaGreat
