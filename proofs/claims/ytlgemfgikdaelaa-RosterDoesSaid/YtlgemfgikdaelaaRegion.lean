/- A region that draws its order, whose callees make memory of their own: one walk of the text's order serves every order.
   Head: operations that only read, and calls whose contract ends in 'Below'. Then new blocks. Then a tail in a forced order (stores). -/
import Derived.Test.YtlgemfgikdaelaaRows
import Derived.WalkKit
import Derived.BigQuiet
import Derived.StillTail
import Derived.Below
namespace Go.Proofs.Ytlgemfgikdaelaa
open Go.RowKit

/-! ### A call hands back one value only -/

/-- A caller that can do nothing once it is back. -/
def deadFrame : Frame := { fn := 0, tmps := #[], todo := [.code (.goto 0)], defers := [], mode := .run, kind := .normal }

theorem dead_step (P : Program) (w : World) : ∃ o w', step P (lone deadFrame [] w) = .ended o w' := by
  have h : ∃ o w', (stepG P true { frame := deadFrame, callers := [], status := .running, dying := none } w).bare = .ended o w' := by
    simp [stepG, stepG.exec, deadFrame, gotoIn]
  obtain ⟨o, w', h⟩ := h
  exact ⟨o, w', step_lone_ended h⟩

theorem dead_runN {P : Program} {w : World} {n : Nat} {m : Machine} (h : runN P (n + 1) (lone deadFrame [] w) = .next m) : False := by
  obtain ⟨o, w', hs⟩ := dead_step P w
  simp [runN, hs] at h

theorem leaving_alone {P : Program} {fr fr' : Frame} {w w' : World} {v : Value} {d : Nat} (hl : fr.leaving P w (.returned v))
    (h : runN P d (lone fr [deadFrame] w) = .next (lone fr' [deadFrame] w')) : fr = fr' ∧ w = w' := by
  have hs := step_leave_returned (c := deadFrame) (cs := []) hl
  match d with
  | 0 =>
    simp only [runN, Stepped.next.injEq] at h
    simp only [lone, Machine.mk.injEq] at h
    obtain ⟨h1, h2, _⟩ := h
    simp at h2
    exact ⟨h2, h1⟩
  | 1 =>
    simp only [runN, hs, Stepped.next.injEq] at h
    simp [lone] at h
  | d + 2 =>
    rw [runN, hs] at h
    exact (dead_runN h).elim

theorem Calls.value_unique {P : Program} {f : FuncId} {args : Array Value} {w : World} {v v' : Value} {A B : World → Prop}
    (h : Calls P f args w fun e w' => e = .returned v ∧ A w') (h' : Calls P f args w fun e w' => e = .returned v' ∧ B w') : v = v' := by
  obtain ⟨e, w1, fr, ⟨rfl, _⟩, hc, _, hl⟩ := h [deadFrame]
  obtain ⟨e', w1', fr', ⟨rfl, _⟩, hc', _, hl'⟩ := h' [deadFrame]
  obtain ⟨n, hn⟩ := hc
  obtain ⟨n', hn'⟩ := hc'
  have key : ∀ {fr fr' : Frame} {w1 w1' : World} {v v' : Value}, fr.leaving P w1 (.returned v) → fr'.leaving P w1' (.returned v') → fr = fr' ∧ w1 = w1' → v = v' := by
    rintro fr fr' w1 w1' v v' ⟨_, _, _, fn, hf, hr⟩ ⟨_, _, _, fn', hf', hr'⟩ ⟨rfl, rfl⟩
    rw [hf] at hf'
    cases hf'
    rw [hr] at hr'
    cases hr'
    rfl
  rcases Nat.le_total n n' with hle | hle
  · obtain ⟨d, rfl⟩ := Nat.exists_eq_add_of_le hle
    rw [runN_add, hn] at hn'
    exact key hl hl' (leaving_alone hl hn')
  · obtain ⟨d, rfl⟩ := Nat.exists_eq_add_of_le hle
    rw [runN_add, hn'] at hn
    exact (key hl' hl (leaving_alone hl' hn)).symm

/-! ### The worlds that come of a world by new blocks -/

structure In (W : World) where
  w : World
  h : Below W.heap.size W w

theorem In.cell {W : World} (n : In W) {a : Addr} {v : Value} (hc : W.cell? a = some v) : n.w.cell? a = some v := by
  rw [n.h.cell (World.block_lt_of_cell? W a hc)]; exact hc
def In.self (W : World) : In W := ⟨W, Below.refl _ _⟩
instance In.some (W : World) : Nonempty (In W) := ⟨In.self W⟩
def In.within {W : World} {m : In W} (n : In m.w) : In W := ⟨n.w, m.h.trans (n.h.mono m.h.size)⟩
/-- the class of the quiet walk -/
def cls (W : World) : World → Prop := fun w' => ∃ n : In W, w' = n.w

theorem In.call {P : Program} {f : FuncId} {args : Array Value} {W : World} {n : In W} {v : Value}
    (h : Calls P f args n.w fun e w' => e = .returned v ∧ Below n.w.heap.size n.w w') : Calls P f args n.w fun e w'' => e = .returned v ∧ ∃ m : In W, w'' = m.w :=
  h.mono fun _ w' ⟨he, hb⟩ => ⟨he, ⟨w', n.h.trans (hb.mono n.h.size)⟩, rfl⟩
theorem In.call_same {P : Program} {f : FuncId} {args : Array Value} {W : World} {n : In W} {v : Value}
    (h : Calls P f args n.w fun e w' => e = .returned v ∧ n.w = w') : Calls P f args n.w fun e w'' => e = .returned v ∧ ∃ m : In W, w'' = m.w :=
  h.mono fun _ _ ⟨he, hw⟩ => ⟨he, n, hw.symm⟩

section
variable {P : Program} {ops : Array Oper} {md : Region.Mode} {W : World}

def calmAt (P : Program) (o : Oper) (a : Act) (W : World) (v : Value) : Prop := ∀ n : In W, Oper.quietUpon P (cls n.w) n.w v ((execOp a.eval o).run P n.w)

theorem upon_unique {C C' : World → Prop} {w : World} {v v' : Value} {r : Result Next} (h : Oper.quietUpon P C w v r) (h' : Oper.quietUpon P C' w v' r) : v = v' := by
  cases r with
  | ok n w1 =>
    cases n <;> simp only [Oper.quietUpon] at h h'
    case value u => exact h.2.symm.trans h'.2
    case skip => exact h.2.trans h'.2.symm
    case enter f args => exact Calls.value_unique h.2 h'.2
  | halt x w1 => simp only [Oper.quietUpon] at h

/-- new blocks that the region makes -/
def Gh := Nat → Option Obj
def Gh.none : Gh := fun _ => Option.none
def Gh.set (G : Gh) (b : Nat) (o : Obj) : Gh := fun k => if k = b then some o else G k
def Gh.few (G : Gh) : Prop := ∃ N, ∀ b, N ≤ b → G b = Option.none
theorem Gh.few_none : Gh.none.few := ⟨0, fun _ _ => rfl⟩
theorem Gh.few_set {G : Gh} (h : G.few) (b : Nat) (o : Obj) : (G.set b o).few := by
  obtain ⟨N, hN⟩ := h
  exact ⟨max N (b + 1), fun k hk => by unfold Gh.set; rw [if_neg (by omega)]; exact hN k (by omega)⟩
theorem Gh.set_ne {G : Gh} {b b' : Nat} (o : Obj) (h : b' ≠ b) : (G.set b o) b' = G b' := by unfold Gh.set; rw [if_neg h]
theorem Gh.set_self (G : Gh) (b : Nat) (o : Obj) : (G.set b o) b = some o := by unfold Gh.set; rw [if_pos rfl]
theorem Gh.set_comm {G : Gh} {b b' : Nat} (o o' : Obj) (h : b ≠ b') : (G.set b o).set b' o' = (G.set b' o').set b o := by
  funext k
  unfold Gh.set
  by_cases h1 : k = b'
  · rw [if_pos h1, if_neg (by omega), if_pos h1]
  · rw [if_neg h1]
    by_cases h2 : k = b
    · rw [if_pos h2, if_pos h2]
    · rw [if_neg h2, if_neg h2, if_neg h1]

structure Held (W : World) (G : Gh) (w : World) : Prop where
  below : Below W.heap.size W w
  own : ∀ k o, G k = some o → w.heap[k]? = some o

/-- an operation that makes one new block -/
def newsAt (P : Program) (o : Oper) (a : Act) (W : World) (s : Obj × (Nat → Value)) : Prop :=
  ∀ n : In W, (execOp a.eval o).run P n.w = .ok (.value (s.2 n.w.heap.size)) (n.w.alloc s.1)

/-- which operations make a block: those from m on -/
def newsOf (m : Nat) (ns : List (Obj × (Nat → Value))) (j : Nat) : Option (Obj × (Nat → Value)) := if j < m then Option.none else ns[j - m]?

def cOp (P : Program) (ops : Array Oper) (W : World) (N : Nat → Option (Obj × (Nat → Value))) (j : Nat) (K : Act → Gh → Prop) (a : Act) (G : Gh) : Prop :=
  match ops[j]? with
  | Option.none => K a G
  | some o =>
    match N j with
    | Option.none => if Region.wanted o (yielded ops a.tmps) then ∃ v, calmAt P o a W v ∧ K (a.put o.dst v) G else K (a.put o.dst undef) G
    | some s => Region.wanted o (yielded ops a.tmps) = true ∧ newsAt P o a W s ∧ ∀ b, W.heap.size ≤ b → G b = Option.none → K (a.put o.dst (s.2 b)) (G.set b s.1)

variable {N : Nat → Option (Obj × (Nat → Value))}

theorem cOp_mono {j : Nat} {K K' : Act → Gh → Prop} {a : Act} {G : Gh} (h : ∀ a G, K a G → K' a G) (hh : cOp P ops W N j K a G) : cOp P ops W N j K' a G := by
  unfold cOp at *
  cases ho : ops[j]? with
  | none => simp only [ho] at hh; exact h _ _ hh
  | some o =>
    simp only [ho] at hh ⊢
    cases hn : N j with
    | none =>
      simp only [hn] at hh ⊢
      split
      · rename_i hw; simp only [hw, if_true] at hh; exact hh.imp fun v hv => ⟨hv.1, h _ _ hv.2⟩
      · rename_i hw; simp only [hw] at hh; exact h _ _ hh
    | some s =>
      simp only [hn] at hh ⊢
      exact ⟨hh.1, hh.2.1, fun b h1 h2 => h _ _ (hh.2.2 b h1 h2)⟩

/-- What it is for a run. -/
theorem wpOp_of_cOp {i : Nat} {a : Act} {G : Gh} {w : World} {K : Act → Gh → Prop} {K' : Act → World → Prop} {Q : Exit → Act → World → Prop} (hw : Held W G w)
    (h : ∀ a G w, Held W G w → K a G → K' a w) (hh : cOp P ops W N i K a G) : wpOp P ops Q i K' a w := by
  unfold cOp at hh
  unfold wpOp
  cases ho : ops[i]? with
  | none => simp only [ho] at hh; exact h _ _ _ hw hh
  | some o =>
    simp only [ho] at hh ⊢
    cases hn : N i with
    | none =>
      simp only [hn] at hh
      split
      · rename_i hwant
        simp only [hwant, if_true] at hh
        obtain ⟨v, hv, hK⟩ := hh
        refine .inl ?_
        have h3 := hv ⟨w, hw.below⟩
        unfold Oper.wp
        simp only at h3
        generalize (execOp a.eval o).run P w = r at *
        cases r with
        | ok n w' =>
          cases n <;> simp only [Oper.quietUpon] at h3 <;> simp only [Oper.upon]
          case value u =>
            obtain ⟨e1, e2⟩ := h3
            rw [e1, e2]
            exact h _ _ _ hw hK
          case skip =>
            obtain ⟨e1, e2⟩ := h3
            rw [e1, ← e2]
            exact h _ _ _ hw hK
          case enter f args =>
            obtain ⟨e1, hc⟩ := h3
            rw [e1]
            refine hc.mono fun e w'' ⟨he, n, hn⟩ => ?_
            subst he
            subst hn
            refine h _ _ _ ⟨hw.below.trans (n.h.mono hw.below.size), fun k o hk => ?_⟩ hK
            have h4 := hw.own k o hk
            rw [n.h.block k (by rcases Nat.lt_or_ge k w.heap.size with hlt | hge
                                · exact hlt
                                · rw [Array.getElem?_eq_none hge] at h4; cases h4)]
            exact h4
        | halt x w' => simp only [Oper.quietUpon] at h3
      · rename_i hwant
        simp only [hwant] at hh
        exact h _ _ _ hw hh
    | some s =>
      simp only [hn] at hh
      obtain ⟨hwant, hnew, hK⟩ := hh
      rw [if_pos hwant]
      refine .inl ?_
      unfold Oper.wp
      rw [hnew ⟨w, hw.below⟩]
      simp only [Oper.upon]
      have hfree : G w.heap.size = Option.none := by
        cases hG : G w.heap.size with
        | none => rfl
        | some o' => have := hw.own _ _ hG; rw [Array.getElem?_eq_none (Nat.le_refl _)] at this; cases this
      refine h _ _ _ ⟨hw.below.alloc hw.below.size _, fun k o hk => ?_⟩ (hK w.heap.size hw.below.size hfree)
      by_cases hkb : k = w.heap.size
      · subst hkb
        rw [Gh.set_self] at hk
        cases hk
        show (w.heap.push s.1)[w.heap.size]? = some s.1
        simp
      · rw [Gh.set_ne _ hkb] at hk
        have h4 := hw.own k o hk
        have hlt : k < w.heap.size := by
          rcases Nat.lt_or_ge k w.heap.size with hlt | hge
          · exact hlt
          · rw [Array.getElem?_eq_none hge] at h4; cases h4
        rw [Below.heap_alloc _ _ _ hlt]
        exact h4

/-- The head, in whatever order, till L. -/
def anyL (P : Program) (md : Region.Mode) (ops : Array Oper) (W : World) (N : Nat → Option (Obj × (Nat → Value))) (n : Nat) (L : Array Bool → Act → Gh → Prop) : Nat → Array Bool → Act → Gh → Prop
  | 0, listed, a, G => L listed a G
  | f + 1, listed, a, G =>
    Region.ready md ops listed ≠ [] ∧ ∀ i ∈ Region.ready md ops listed, i < n ∧ cOp P ops W N i (anyL P md ops W N n L f (listed.setIfInBounds i true)) a G

theorem wpAny_of_anyL {n g : Nat} {L : Array Bool → Act → Gh → Prop} {Q : Exit → Act → World → Prop} (hL : ∀ listed a G w, Held W G w → L listed a G → wpAny P md ops Q g listed a w) :
    ∀ (f : Nat) (listed : Array Bool) (a : Act) (G : Gh) (w : World), Held W G w → anyL P md ops W N n L f listed a G → wpAny P md ops Q (f + g) listed a w
  | 0, listed, a, G, w, hw, h => by rw [Nat.zero_add]; exact hL _ _ _ _ hw h
  | f + 1, listed, a, G, w, hw, h => by
    rw [show f + 1 + g = (f + g) + 1 by omega]
    exact ⟨fun h0 => absurd h0 h.1, fun i hi => wpOp_of_cOp hw (fun a' G' w' hw' h' => wpAny_of_anyL hL f _ a' G' w' hw' h') (h.2 i hi).2⟩

theorem calmAt_same {o : Oper} {a a' : Act} {v : Value} (he : execOp a'.eval o = execOp a.eval o) (h : calmAt P o a W v) : calmAt P o a' W v := by
  unfold calmAt at *
  rw [he]
  exact h
theorem newsAt_same {o : Oper} {a a' : Act} {s : Obj × (Nat → Value)} (he : execOp a'.eval o = execOp a.eval o) (h : newsAt P o a W s) : newsAt P o a' W s := by
  unfold newsAt at *
  rw [he]
  exact h

def CalmY (P : Program) (ops : Array Oper) (W : World) (o : Oper) (v : Value) (a : Act) : Prop :=
  (Region.wanted o (yielded ops a.tmps) = true ∧ calmAt P o a W v) ∨ (Region.wanted o (yielded ops a.tmps) = false ∧ v = undef)

theorem CalmY.put {oi oj : Oper} {v : Value} {a : Act} (h3 : ∀ d, oj.dst = some d → d ∉ oi.looksAt ops) (hsi : ∀ cs b, oi.op ≠ .select cs b) (hy : CalmY P ops W oi v a) (u : Value) : CalmY P ops W oi v (a.put oj.dst u) := by
  unfold CalmY at *
  rw [wanted_put oi a oj.dst u h3]
  exact hy.imp (fun h => ⟨h.1, calmAt_same (execOp_put oi hsi a oj.dst u h3) h.2⟩) id

theorem cOp_put_calm {j : Nat} {oi oj : Oper} {v : Value} (hj : ops[j]? = some oj) (hap : oi.apart ops oj = true)
    (hsi : ∀ cs b, oi.op ≠ .select cs b) (hsj : ∀ cs b, oj.op ≠ .select cs b) {K : Act → Gh → Prop} {a : Act} {G : Gh}
    (hy : CalmY P ops W oi v a) (h : cOp P ops W N j K (a.put oi.dst v) G) :
    cOp P ops W N j (fun a' G' => CalmY P ops W oi v a' ∧ K (a'.put oi.dst v) G') a G := by
  obtain ⟨h1, h2, h3⟩ := Oper.apart_spec hap
  unfold cOp at *
  simp only [hj] at *
  cases hn : N j with
  | none =>
    simp only [hn] at h ⊢
    rw [wanted_put oj a oi.dst v h1] at h
    split
    · rename_i hw
      simp only [hw, if_true] at h
      obtain ⟨u, hu, hK⟩ := h
      exact ⟨u, calmAt_same (execOp_put oj hsj a oi.dst v h1).symm hu, hy.put h3 hsi u, by rw [← Act.put_comm a v u h2]; exact hK⟩
    · rename_i hw
      simp only [hw] at h
      exact ⟨hy.put h3 hsi _, by rw [← Act.put_comm a v undef h2]; exact h⟩
  | some s =>
    simp only [hn] at h ⊢
    obtain ⟨hw, hs, hK⟩ := h
    exact ⟨by rw [← wanted_put oj a oi.dst v h1]; exact hw, newsAt_same (execOp_put oj hsj a oi.dst v h1).symm hs,
      fun b hb hG => ⟨hy.put h3 hsi _, by rw [← Act.put_comm a v (s.2 b) h2]; exact hK b hb hG⟩⟩

theorem CalmY.cOp {i : Nat} {o : Oper} {v : Value} {a : Act} {G : Gh} (hi : ops[i]? = some o) (hn : N i = Option.none) (hy : CalmY P ops W o v a) {K : Act → Gh → Prop} (h : K (a.put o.dst v) G) : cOp P ops W N i K a G := by
  unfold Go.Proofs.Ytlgemfgikdaelaa.cOp
  simp only [hi, hn]
  rcases hy with ⟨hw, hv⟩ | ⟨hw, rfl⟩
  · simp only [hw, if_true]; exact ⟨v, hv, h⟩
  · simp only [hw, Bool.false_eq_true, if_false]; exact h

/-- nobody of the tail comes up while somebody of the head has not -/
def HeadFirst (md : Region.Mode) (ops : Array Oper) (n : Nat) : Prop := n = ops.size ∨ (Region.sinkB md ops n = true ∧ Region.chainB md ops n = true ∧ n < ops.size)

theorem HeadFirst.lt {n : Nat} (h : HeadFirst md ops n) {listed : Array Bool} (inv : HeadInv md ops n listed) {i j : Nat} (hin : i < n) (hun : listed.getD i true = false) (hj : j ∈ Region.ready md ops listed) : j < n := by
  rcases h with rfl | ⟨hs, hc, hn⟩
  · obtain ⟨_, oj, hoj, _⟩ := mem_ready.1 hj
    exact (Array.getElem?_eq_some_iff.1 hoj).1
  · rcases Nat.lt_or_ge j n with h | h
    · exact h
    · exact absurd hj (tail_waits hs hc hn inv _ i rfl hin hun j h)

theorem not_after {i j : Nat} {listed : Array Bool} {oj : Oper} (hun : listed.getD i true = false) (hall : ∀ e ∈ oj.after, Region.binds md e = true → listed.getD e.on false = true) (_h : i = i) (_hj : j = j) :
    ∀ e ∈ oj.after, Region.binds md e = true → e.on ≠ i := fun e he hb heq => by
  have h1 := hall e he hb
  rw [heq, getD_both hun] at h1
  cases h1

theorem anyL_first {n i : Nat} {oi : Oper} {v : Value} {L : Array Bool → Act → Gh → Prop} (hi : ops[i]? = some oi) (hN : N i = Option.none) (hsel : ∀ (j : Nat) (o : Oper) cs b, ops[j]? = some o → o.op ≠ .select cs b)
    (hh : HeadFirst md ops n) (hin : i < n) (hdone : ∀ listed a G, L listed a G → ∀ j ∈ Region.ready md ops listed, n ≤ j) :
    ∀ (f : Nat) (listed : Array Bool) (a : Act) (G : Gh), HeadInv md ops n listed →
      (∀ j oj, ops[j]? = some oj → j ≠ i → listed.getD j true = false → (∀ e ∈ oj.after, Region.binds md e = true → e.on ≠ i) → oi.apart ops oj = true) →
      i ∈ Region.ready md ops listed → CalmY P ops W oi v a →
      anyL P md ops W N n L f (listed.setIfInBounds i true) (a.put oi.dst v) G → anyL P md ops W N n L (f + 1) listed a G := by
  intro f
  induction f with
  | zero =>
    intro listed a G inv _ hr hy H
    have hun := (mem_ready.1 hr).1
    refine ⟨fun h => (by rw [h] at hr; cases hr), fun j hj => ?_⟩
    refine ⟨hh.lt inv hin hun hj, ?_⟩
    by_cases hji : j = i
    · subst hji; exact hy.cOp hi hN H
    · have := hdone _ _ _ H j (ready_mono hj hji)
      have := hh.lt inv hin hun hj
      omega
  | succ f ih =>
    intro listed a G inv hfree hr hy H
    have hun := (mem_ready.1 hr).1
    refine ⟨fun h => (by rw [h] at hr; cases hr), fun j hj => ?_⟩
    have hjn := hh.lt inv hin hun hj
    refine ⟨hjn, ?_⟩
    by_cases hji : j = i
    · subst hji; exact hy.cOp hi hN H
    · have h1 := (H.2 j (ready_mono hj hji)).2
      obtain ⟨hjun, oj, hoj, hall⟩ := mem_ready.1 hj
      have h2 := cOp_put_calm hoj (hfree j oj hoj hji hjun (not_after (j := j) hun hall rfl rfl)) (fun cs b => hsel i oi cs b hi) (fun cs b => hsel j oj cs b hoj) hy h1
      have hfree' : ∀ k ok, ops[k]? = some ok → k ≠ i → (listed.setIfInBounds j true).getD k true = false →
          (∀ e ∈ ok.after, Region.binds md e = true → e.on ≠ i) → oi.apart ops ok = true := fun k ok hk hki hun' hno => by
        refine hfree k ok hk hki ?_ hno
        by_cases hjk : j = k
        · subst hjk; exact hjun
        · rw [getD_set_ne true hjk] at hun'; exact hun'
      refine cOp_mono (fun a' G' h3 => ih (listed.setIfInBounds j true) a' G' (inv.set hj hjn) hfree' (ready_mono hr (Ne.symm hji)) h3.1 ?_) h2
      rw [Array.setIfInBounds_comm _ _ hji]
      exact h3.2

theorem cOp_put_news {j : Nat} {oi oj : Oper} {si sj : Obj × (Nat → Value)} (hj : ops[j]? = some oj) (hN : N j = some sj) (hap : oi.apart ops oj = true)
    (hsi : ∀ cs b, oi.op ≠ .select cs b) (hsj : ∀ cs b, oj.op ≠ .select cs b) {K : Act → Gh → Prop} {a : Act} {G : Gh} (hfew : G.few)
    (hwi : Region.wanted oi (yielded ops a.tmps) = true) (hy : newsAt P oi a W si) (h : ∀ b, W.heap.size ≤ b → G b = Option.none → cOp P ops W N j K (a.put oi.dst (si.2 b)) (G.set b si.1)) :
    cOp P ops W N j (fun a' G' => G'.few ∧ Region.wanted oi (yielded ops a'.tmps) = true ∧ newsAt P oi a' W si ∧ ∀ b, W.heap.size ≤ b → G' b = Option.none → K (a'.put oi.dst (si.2 b)) (G'.set b si.1)) a G := by
  obtain ⟨h1, h2, h3⟩ := Oper.apart_spec hap
  unfold cOp at *
  simp only [hj, hN] at *
  obtain ⟨M, hM⟩ := hfew
  have h0 := h (max M W.heap.size) (by omega) (hM _ (by omega))
  obtain ⟨hw, hs, _⟩ := h0
  refine ⟨by rw [← wanted_put oj a oi.dst _ h1]; exact hw, newsAt_same (execOp_put oj hsj a oi.dst _ h1).symm hs, fun b' hb' hG' => ⟨Gh.few_set ⟨M, hM⟩ _ _, ?_, ?_, fun b hb hG => ?_⟩⟩
  · rw [wanted_put oi a oj.dst _ h3]; exact hwi
  · exact newsAt_same (execOp_put oi hsi a oj.dst _ h3) hy
  · have hne : b ≠ b' := fun e => by subst e; rw [Gh.set_self] at hG; cases hG
    rw [Gh.set_ne _ hne] at hG
    have h5 := (h b hb hG).2.2 b' hb' (by rw [Gh.set_ne _ (Ne.symm hne)]; exact hG')
    rw [Act.put_comm a (si.2 b) (sj.2 b') h2, Gh.set_comm _ _ hne] at h5
    exact h5

theorem anyL_news {n i : Nat} {oi : Oper} {si : Obj × (Nat → Value)} {L : Array Bool → Act → Gh → Prop} (hi : ops[i]? = some oi) (hN : N i = some si) (hsel : ∀ (j : Nat) (o : Oper) cs b, ops[j]? = some o → o.op ≠ .select cs b)
    (hh : HeadFirst md ops n) (hin : i < n) (hdone : ∀ listed a G, L listed a G → ∀ j ∈ Region.ready md ops listed, n ≤ j) :
    ∀ (f : Nat) (listed : Array Bool) (a : Act) (G : Gh), HeadInv md ops n listed →
      (∀ j oj, ops[j]? = some oj → j ≠ i → listed.getD j true = false → (∀ e ∈ oj.after, Region.binds md e = true → e.on ≠ i) → oi.apart ops oj = true) →
      (∀ j, j < n → listed.getD j true = false → ∃ s, N j = some s) →
      i ∈ Region.ready md ops listed → G.few → Region.wanted oi (yielded ops a.tmps) = true → newsAt P oi a W si →
      (∀ b, W.heap.size ≤ b → G b = Option.none → anyL P md ops W N n L f (listed.setIfInBounds i true) (a.put oi.dst (si.2 b)) (G.set b si.1)) → anyL P md ops W N n L (f + 1) listed a G := by
  have direct : ∀ {K : Act → Gh → Prop} {a : Act} {G : Gh}, Region.wanted oi (yielded ops a.tmps) = true → newsAt P oi a W si → (∀ b, W.heap.size ≤ b → G b = Option.none → K (a.put oi.dst (si.2 b)) (G.set b si.1)) → cOp P ops W N i K a G := by
    intro K a G h1 h2 h3
    unfold cOp
    simp only [hi, hN]
    exact ⟨h1, h2, h3⟩
  intro f
  induction f with
  | zero =>
    intro listed a G inv _ _ hr hfew hwi hy H
    have hun := (mem_ready.1 hr).1
    refine ⟨fun h => (by rw [h] at hr; cases hr), fun j hj => ?_⟩
    refine ⟨hh.lt inv hin hun hj, ?_⟩
    by_cases hji : j = i
    · subst hji; exact direct hwi hy H
    · obtain ⟨M, hM⟩ := hfew
      have := hdone _ _ _ (H (max M W.heap.size) (by omega) (hM _ (by omega))) j (ready_mono hj hji)
      have := hh.lt inv hin hun hj
      omega
  | succ f ih =>
    intro listed a G inv hfree hnews hr hfew hwi hy H
    have hun := (mem_ready.1 hr).1
    refine ⟨fun h => (by rw [h] at hr; cases hr), fun j hj => ?_⟩
    have hjn := hh.lt inv hin hun hj
    refine ⟨hjn, ?_⟩
    by_cases hji : j = i
    · subst hji; exact direct hwi hy H
    · obtain ⟨hjun, oj, hoj, hall⟩ := mem_ready.1 hj
      obtain ⟨sj, hsj⟩ := hnews j hjn hjun
      have h2 := cOp_put_news hoj hsj (hfree j oj hoj hji hjun (not_after (j := j) hun hall rfl rfl)) (fun cs b => hsel i oi cs b hi) (fun cs b => hsel j oj cs b hoj) hfew hwi hy
        (fun b hb hG => ((H b hb hG).2 j (ready_mono hj hji)).2)
      have hset : ∀ k, (listed.setIfInBounds j true).getD k true = false → listed.getD k true = false := fun k hk => by
        by_cases hjk : j = k
        · subst hjk; exact hjun
        · rw [getD_set_ne true hjk] at hk; exact hk
      refine cOp_mono (fun a' G' h3 => ih (listed.setIfInBounds j true) a' G' (inv.set hj hjn) (fun k ok hk hki hun' hno => hfree k ok hk hki (hset k hun') hno)
        (fun k hk hun' => hnews k hk (hset k hun')) (ready_mono hr (Ne.symm hji)) h3.1 h3.2.1 h3.2.2.1 (fun b hb hG => ?_)) h2
      rw [Array.setIfInBounds_comm _ _ hji]
      exact h3.2.2.2 b hb hG

/-! ### The text's order -/

def wpCalm (P : Program) (ops : Array Oper) (W : World) (Q : Act → Prop) : List Oper → Act → Prop
  | [], a => Q a
  | o :: rest, a => if Region.wanted o (yielded ops a.tmps) then ∃ v, calmAt P o a W v ∧ wpCalm P ops W Q rest (a.put o.dst v) else wpCalm P ops W Q rest (a.put o.dst undef)

/-- FROM THE KIT's QUIET WALK, in the worlds that come of any world that comes of W. -/
theorem wpCalm_of_quiet {Q : Act → Prop} : ∀ (l : List Oper) (a : Act), (∀ n : In W, wpQuiet P ops (cls n.w) Q l a) → wpCalm P ops W Q l a
  | [], a, h => h (In.self W)
  | o :: rest, a, h => by
    unfold wpCalm
    unfold wpQuiet at h
    split
    · rename_i hw
      simp only [hw, if_true] at h
      obtain ⟨v, hv, _⟩ := h (In.self W)
      have key : ∀ n : In W, Oper.quietUpon P (cls n.w) n.w v ((execOp a.eval o).run P n.w) ∧ wpQuiet P ops (cls n.w) Q rest (a.put o.dst v) := by
        intro n
        obtain ⟨v', hv', hrest⟩ := h n
        have e : v = v' := upon_unique (hv n.w ⟨n, rfl⟩) (hv' n.w ⟨In.self n.w, rfl⟩)
        subst e
        exact ⟨hv' n.w ⟨In.self n.w, rfl⟩, hrest⟩
      exact ⟨v, fun n => (key n).1, wpCalm_of_quiet rest _ fun n => (key n).2⟩
    · rename_i hw
      simp only [hw] at h
      exact wpCalm_of_quiet rest _ h

def wpNews (P : Program) (ops : Array Oper) (W : World) (Q : Act → Gh → Prop) : List Oper → List (Obj × (Nat → Value)) → Act → Gh → Prop
  | [], [], a, G => Q a G
  | o :: os, s :: ss, a, G => Region.wanted o (yielded ops a.tmps) = true ∧ newsAt P o a W s ∧ ∀ b, W.heap.size ≤ b → G b = Option.none → wpNews P ops W Q os ss (a.put o.dst (s.2 b)) (G.set b s.1)
  | _, _, _, _ => False

def calmB (md : Region.Mode) (ops : Array Oper) (n : Nat) : Bool :=
  Region.noSelect ops && (n == ops.size || (decide (n < ops.size) && Region.sinkB md ops n && Region.chainB md ops n)) && Region.lexHead md ops (ops.size - n) n 0 (Array.replicate ops.size false)

theorem anyL_of_news {n m g : Nat} {Lq : Act → Gh → Prop} {ns : List (Obj × (Nat → Value))} (hsel : Region.noSelect ops = true) (hh : HeadFirst md ops n) (hn : n = m + ns.length) (hle : n ≤ ops.size) :
    ∀ (l : List Oper) (ss : List (Obj × (Nat → Value))) (k : Nat) (listed : Array Bool) (a : Act) (G : Gh), (∀ j, j < l.length → l[j]? = ops[k + j]?) → (∀ j, j < ss.length → ss[j]? = ns[k - m + j]?) → m ≤ k → k + l.length = n →
    (∀ j, j < k → listed.getD j true = true) → HeadInv md ops n listed → G.few →
    Region.lexHead md ops g l.length k listed = true → wpNews P ops W Lq l ss a G →
    anyL P md ops W (newsOf m ns) n (fun listed' a' G' => Region.seqB md ops g n listed' = true ∧ Lq a' G') l.length listed a G
  | [], [], k, listed, a, G, hl, hs, hmk, hk, hdone, inv, hfew, hB, h => by
    have : k = n := by simpa using hk
    subst this
    exact ⟨by simpa [Region.lexHead] using hB, h⟩
  | [], _ :: _, _, _, _, _, _, _, _, _, _, _, _, _, h => by unfold wpNews at h; exact h.elim
  | _ :: _, [], _, _, _, _, _, _, _, _, _, _, _, _, h => by unfold wpNews at h; exact h.elim
  | o :: l, s :: ss, k, listed, a, G, hl, hs, hmk, hk, hdone, inv, hfew, hB, h => by
    have h0 : ops[k]? = some o := by simpa using (hl 0 (by simp)).symm
    have hkn : k < n := by simp only [List.length_cons] at hk; omega
    have hNk : newsOf m ns k = some s := by
      unfold newsOf
      rw [if_neg (by omega)]
      simpa using (hs 0 (by simp)).symm
    simp only [List.length_cons, Region.lexHead, Bool.and_eq_true] at hB
    obtain ⟨⟨hr, hf⟩, hB'⟩ := hB
    have hr' : k ∈ Region.ready md ops listed := by simpa using hr
    unfold wpNews at h
    obtain ⟨hw, hnew, hrest⟩ := h
    refine anyL_news h0 hNk (Region.noSelect_spec hsel) hh hkn (fun listed' a' G' hL => seqB_ready hL.1) l.length listed a G inv (Region.free_spec h0 hf) ?_ hr' hfew hw hnew (fun b hb hG => ?_)
    · intro j hj hun
      have : k ≤ j := by
        rcases Nat.lt_or_ge j k with h | h
        · rw [hdone j h] at hun; cases hun
        · exact h
      have hlt : j - m < ns.length := by omega
      exact ⟨ns[j - m], by unfold newsOf; rw [if_neg (by omega)]; exact List.getElem?_eq_getElem hlt⟩
    · refine anyL_of_news hsel hh hn hle l ss (k + 1) _ _ _ (fun j hj => by have := hl (j + 1) (by simp; omega); simpa [Nat.add_assoc, Nat.add_comm 1 j] using this)
        (fun j hj => by have := hs (j + 1) (by simp; omega); simp only [List.getElem?_cons_succ] at this; rw [this]; congr 1; omega) (by omega) (by simp only [List.length_cons] at hk; omega) ?_ (inv.set hr' hkn) (Gh.few_set hfew _ _) hB' (hrest b hb hG)
      intro j hj
      by_cases hjk : k = j
      · subst hjk
        have : k < listed.size := by rw [inv.size]; omega
        simp [this]
      · rw [getD_set_ne true hjk]; exact hdone j (by omega)

theorem anyL_of_calm {n m g : Nat} {Lq : Act → Gh → Prop} {ns : List (Obj × (Nat → Value))} (hsel : Region.noSelect ops = true) (hh : HeadFirst md ops n) (hn : n = m + ns.length) (hle : n ≤ ops.size) (l2 : List Oper) (hl2 : l2.length = ns.length) :
    ∀ (l : List Oper) (k : Nat) (listed : Array Bool) (a : Act), (∀ j, j < (l ++ l2).length → (l ++ l2)[j]? = ops[k + j]?) → k + l.length = m →
    (∀ j, j < k → listed.getD j true = true) → HeadInv md ops n listed →
    Region.lexHead md ops g (l ++ l2).length k listed = true → wpCalm P ops W (fun a' => wpNews P ops W Lq l2 ns a' Gh.none) l a →
    anyL P md ops W (newsOf m ns) n (fun listed' a' G' => Region.seqB md ops g n listed' = true ∧ Lq a' G') (l ++ l2).length listed a Gh.none
  | [], k, listed, a, hl, hk, hdone, inv, hB, h => by
    have : k = m := by simpa using hk
    subst this
    simp only [List.nil_append] at hl hB ⊢
    unfold wpCalm at h
    exact anyL_of_news hsel hh hn hle l2 ns k listed a Gh.none hl (fun j _ => by simp) (Nat.le_refl _) (by omega) hdone inv Gh.few_none hB h
  | o :: l, k, listed, a, hl, hk, hdone, inv, hB, h => by
    have h0 : ops[k]? = some o := by simpa using (hl 0 (by simp)).symm
    have hkm : k < m := by simp only [List.length_cons] at hk; omega
    have hNk : newsOf m ns k = Option.none := by unfold newsOf; rw [if_pos hkm]
    simp only [List.cons_append, List.length_cons, Region.lexHead, Bool.and_eq_true] at hB ⊢
    obtain ⟨⟨hr, hf⟩, hB'⟩ := hB
    have hr' : k ∈ Region.ready md ops listed := by simpa using hr
    unfold wpCalm at h
    obtain ⟨v, hy, hK⟩ : ∃ v, CalmY P ops W o v a ∧ wpCalm P ops W (fun a' => wpNews P ops W Lq l2 ns a' Gh.none) l (a.put o.dst v) := by
      by_cases hw : Region.wanted o (yielded ops a.tmps) = true
      · simp only [hw, if_true] at h
        obtain ⟨v, hv, hK⟩ := h
        exact ⟨v, .inl ⟨hw, hv⟩, hK⟩
      · simp only [hw] at h
        exact ⟨undef, .inr ⟨by simpa using hw, rfl⟩, h⟩
    refine anyL_first h0 hNk (Region.noSelect_spec hsel) hh (by omega) (fun listed' a' G' hL => seqB_ready hL.1) (l ++ l2).length listed a Gh.none inv (Region.free_spec h0 hf) hr' hy ?_
    refine anyL_of_calm hsel hh hn hle l2 hl2 l (k + 1) _ _ (fun j hj => by have := hl (j + 1) (by simp at hj ⊢; omega); simpa [Nat.add_assoc, Nat.add_comm 1 j] using this) (by simp only [List.length_cons] at hk; omega) ?_ (inv.set hr' (by omega)) hB' hK
    intro j hj
    by_cases hjk : k = j
    · subst hjk
      have : k < listed.size := by rw [inv.size]; omega
      simp [this]
    · rw [getD_set_ne true hjk]; exact hdone j (by omega)

/-- THE LAW. m operations that read or call, then new blocks 'ns', then the tail (from n on), in its own order. -/
theorem wp_region_calm {id : Nat} {Q : Exit → Act → World → Prop} {a : Act} {l : List Oper} (m n : Nat) (ns : List (Obj × (Nat → Value))) (hm : P.follows .mixedOrders = true)
    (hn : n = m + ns.length) (hle : n ≤ l.length) (hB : calmB .any l.toArray n = true)
    (h : ∀ M : In W, wpQuiet P l.toArray (cls M.w) (fun a' => wpNews P l.toArray W (fun a'' G => ∀ w', Held W G w' → wpList P l.toArray Q (l.drop n) a'' w') ((l.drop m).take ns.length) ns a' Gh.none) (l.take m) a) :
    (Code.region id l.toArray true).wp P Q a W := by
  unfold calmB at hB
  simp only [Bool.and_eq_true, Bool.or_eq_true, beq_iff_eq, decide_eq_true_eq] at hB
  obtain ⟨⟨hsel, hh0⟩, hlex⟩ := hB
  have hh : HeadFirst .any l.toArray n := hh0.imp (fun x => x) fun x => ⟨x.1.2, x.2, x.1.1⟩
  have hsz : l.toArray.size = l.length := by simp
  have hl12 : l.take m ++ (l.drop m).take ns.length = l.take n := by rw [hn, List.take_add]
  have htl : (l.take m ++ (l.drop m).take ns.length).length = n := by rw [hl12]; simp; omega
  have inv0 : HeadInv .any l.toArray n (Array.replicate l.toArray.size false) :=
    ⟨by simp, fun j oj _ hl => (by rw [getD_replicate_false] at hl; cases hl), fun t _ ht => getD_in (by simpa using ht) (getD_replicate_false _ _)⟩
  have H := anyL_of_calm (P := P) (W := W) (md := .any) (g := l.toArray.size - n) hsel hh hn (by simpa using hle) ((l.drop m).take ns.length) (by simp; omega) (l.take m) 0 _ a
    (fun j hj => by
      rw [htl] at hj
      rw [hl12]
      simp [hj]) (by simp; omega) (fun j hj => by omega) inv0 (by rw [htl]; exact hlex) (wpCalm_of_quiet _ _ h)
  refine wp_region_any hm ?_
  have h6 := wpAny_of_anyL (Q := Q) (g := l.toArray.size - n) (fun listed a' G w' hw' hL => by
    have hdl : (l.drop n).length = l.toArray.size - n := by simp
    have := wpAny_of_seq (P := P) (md := .any) (Q' := Q) (l.drop n) n listed a' w' (fun j => by simp [List.getElem?_drop]) (by rw [hdl]; exact hL.1) (hL.2 w' hw')
    rwa [hdl] at this) _ _ _ _ W.drew ⟨(Below.refl _ _).drew, fun k o hk => by cases hk⟩ H
  rw [htl, show n + (l.toArray.size - n) = l.toArray.size by omega] at h6
  exact h6

/-- Nothing but reads and calls. -/
theorem wp_region_calm0 {id : Nat} {Q : Exit → Act → World → Prop} {a : Act} {l : List Oper} (hm : P.follows .mixedOrders = true) (hB : calmB .any l.toArray l.length = true)
    (h : ∀ M : In W, wpQuiet P l.toArray (fun w' => ∃ n : In M.w, w' = n.w) (fun a' => ∀ w', Below W.heap.size W w' → Q .normal a' w') l a) : (Code.region id l.toArray true).wp P Q a W := by
  refine wp_region_calm l.length l.length [] hm (by simp) (Nat.le_refl _) hB fun M => ?_
  have e : (fun a' => wpNews P l.toArray W (fun a'' G => ∀ w', Held W G w' → wpList P l.toArray Q (l.drop l.length) a'' w') ((l.drop l.length).take ([] : List (Obj × (Nat → Value))).length) [] a' Gh.none) =
      fun a' => ∀ w', Below W.heap.size W w' → Q .normal a' w' := by
    funext a'
    simp only [List.drop_length, List.length_nil, List.take_zero, wpNews, wpList]
    exact propext ⟨fun h w' hb => h w' ⟨hb, fun k o hk => by cases hk⟩, fun h w' hw => h w' hw.below⟩
  rw [e, List.take_length]
  exact h M

/-- Reads and calls, then a tail from n on. -/
theorem wp_region_calmT {id : Nat} {Q : Exit → Act → World → Prop} {a : Act} {l : List Oper} (n : Nat) (hm : P.follows .mixedOrders = true) (hle : n ≤ l.length) (hB : calmB .any l.toArray n = true)
    (h : ∀ M : In W, wpQuiet P l.toArray (fun w' => ∃ n : In M.w, w' = n.w) (fun a' => ∀ w', Below W.heap.size W w' → wpList P l.toArray Q (l.drop n) a' w') (l.take n) a) : (Code.region id l.toArray true).wp P Q a W := by
  refine wp_region_calm n n [] hm (by simp) hle hB fun M => ?_
  have e : (fun a' => wpNews P l.toArray W (fun a'' G => ∀ w', Held W G w' → wpList P l.toArray Q (l.drop n) a'' w') ((l.drop n).take ([] : List (Obj × (Nat → Value))).length) [] a' Gh.none) =
      fun a' => ∀ w', Below W.heap.size W w' → wpList P l.toArray Q (l.drop n) a' w' := by
    funext a'
    simp only [List.length_nil, List.take_zero, wpNews]
    exact propext ⟨fun h w' hb => h w' ⟨hb, fun k o hk => by cases hk⟩, fun h w' hw => h w' hw.below⟩
  rw [e]
  exact h M

/-- Reads and calls (m of them), new blocks (ns), then a tail from n on. -/
theorem wp_region_calmN {id : Nat} {Q : Exit → Act → World → Prop} {a : Act} {l : List Oper} (m n : Nat) (ns : List (Obj × (Nat → Value))) (hm : P.follows .mixedOrders = true)
    (hn : n = m + ns.length) (hle : n ≤ l.length) (hB : calmB .any l.toArray n = true)
    (h : ∀ M : In W, wpQuiet P l.toArray (fun w' => ∃ n : In M.w, w' = n.w) (fun a' => wpNews P l.toArray W (fun a'' G => ∀ w', Held W G w' → wpList P l.toArray Q (l.drop n) a'' w') ((l.drop m).take ns.length) ns a' Gh.none) (l.take m) a) :
    (Code.region id l.toArray true).wp P Q a W := wp_region_calm m n ns hm hn hle hB h
end

theorem below_drewN {B : Nat} {a w : World} (h : Below B a w) (n : Nat) : Below B a (w.drewN n) := by
  induction n with
  | zero => exact h
  | succ n ih => exact ih.drew
theorem ret_i {k : IntKind} {a b : Int} (h : a = b) : Ending.returned (.int k a) = .returned (.int k b) := by rw [h]
theorem ret_b {a b : Bool} (h : a = b) : Ending.returned (.bool a) = .returned (.bool b) := by rw [h]
end Go.Proofs.Ytlgemfgikdaelaa
