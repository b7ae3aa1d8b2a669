/- A region that draws its order, within a round of a loop over a function: as everywhere, if nothing in it is deferred. -/
import Derived.Test.YtibeljppjaenbaaRegion
import Derived.RangeFuncNested
import Derived.RangeFuncBound
import Derived.RangeFuncCalls
import Derived.RangeFuncLeaves
import Derived.Shelf.Abstract
import Derived.WalkKit
import Derived.OwnWalkIn
import Derived.TacticsInMore
import Derived.LoopNIn
import Derived.LoopIn
namespace Go.Proofs.Ytibeljppjaenbaa
open Go.RowKit

section
variable {P : Program} {ops : Array Oper} {Q : Exit → Act → World → Prop}

theorem uponIn_of {o : Oper} {a : Act} {l n : Nat} {K K' : Act → World → Prop} (hK : ∀ a w, K a w → K' a w) (r : Result Next) (h : o.upon P a K Q r) : o.uponIn (Fence.wide.inRound l) n P a K' Q r := by
  cases r with
  | ok x w' =>
    cases x with
    | value v => exact hK _ _ h
    | skip => exact hK _ _ h
    | defer d => exact hK _ _ h
    | enter f args =>
      refine ⟨fun e => (by cases e), CallsIn.inRound l (callsIn_wide.2 (Calls.mono h fun e w'' hr => ?_))⟩
      cases e with
      | returned v => exact hK _ _ hr
      | panicked c => exact hr
      | outgrown => exact hr
    | row row args => exact ⟨fun e => (by cases e), fun c cs _ => let ⟨v, w', r, s⟩ := h c cs; ⟨v, w', hK _ _ r, stepsIn_wide.2 s⟩⟩
    | _ => exact h.elim
  | halt x w' =>
    cases x <;> first | exact h | exact h.elim

theorem wpOpsIn_of {l n : Nat} (hnd : ∀ (i : Nat) (o : Oper), ops[i]? = some o → ∀ c, o.op ≠ .defer c) (hlo : ¬ LetsOut Q) (is : List Nat) (a : Act) (w : World) (h : wpOps P ops Q is a w) : wpOpsIn (Fence.wide.inRound l) n P ops Q is a w := by
  induction is generalizing a w with
  | nil => exact h
  | cons i rest ih =>
    simp only [wpOps, wpOpsIn] at h ⊢
    cases ho : ops[i]? with
    | none =>
      rw [ho] at h
      exact ih _ _ h
    | some o =>
      rw [ho] at h
      simp only at h ⊢
      split at h
      · rename_i hw
        rw [if_pos hw]
        rcases h with h | ⟨_, h⟩
        · refine ⟨fun _ _ => trivial, ?_⟩
          rw [Oper.semAt_eq _ _ _ (hnd i o ho)]
          exact uponIn_of ih _ h
        · exact absurd h hlo
      · rename_i hw
        rw [if_neg hw]
        exact ⟨fun _ _ => trivial, ih _ _ h⟩

/-- nothing in it is deferred -/
def plainOps (l : List Oper) : Bool := l.all fun o => match o.op with | .defer _ => false | _ => true
theorem plainOps_no {l : List Oper} (h : plainOps l = true) : ∀ (i : Nat) (o : Oper), l.toArray[i]? = some o → ∀ c, o.op ≠ .defer c := by
  intro i o ho c hc
  have hm : o ∈ l := List.mem_of_getElem? (by simpa using ho)
  have := List.all_eq_true.1 h o hm
  rw [hc] at this
  cases this

variable {W : World}
theorem wpAny_calm {a : Act} {l : List Oper} (m n : Nat) (ns : List (Obj × (Nat → Value)))
    (hn : n = m + ns.length) (hle : n ≤ l.length) (hB : calmB .any l.toArray n = true)
    (h : ∀ M : In W, wpQuiet P l.toArray (cls M.w) (fun a' => wpNews P l.toArray W (fun a'' G => ∀ w', Held W G w' → wpList P l.toArray Q (l.drop n) a'' w') ((l.drop m).take ns.length) ns a' Gh.none) (l.take m) a) :
    wpAny P .any l.toArray Q l.toArray.size (Array.replicate l.toArray.size false) a W.drew := by
  unfold calmB at hB
  simp only [Bool.and_eq_true, Bool.or_eq_true, beq_iff_eq, decide_eq_true_eq] at hB
  obtain ⟨⟨hsel, hh0⟩, hlex⟩ := hB
  have hh : HeadFirst .any l.toArray n := hh0.imp (fun x => x) fun x => ⟨x.1.2, x.2, x.1.1⟩
  have hsz : l.toArray.size = l.length := by simp
  have hl12 : l.take m ++ (l.drop m).take ns.length = l.take n := by rw [hn, List.take_add]
  have htl : (l.take m ++ (l.drop m).take ns.length).length = n := by rw [hl12]; simp; omega
  have inv0 : HeadInv .any l.toArray n (Array.replicate l.toArray.size false) :=
    ⟨by simp, fun j oj _ hl => (by rw [getD_replicate_false] at hl; cases hl), fun t _ ht => getD_in (by simpa using ht) (getD_replicate_false _ _)⟩
  have H := anyL_of_calm (P := P) (W := W) (md := .any) (g := l.toArray.size - n) hsel hh hn (by simpa using hle) ((l.drop m).take ns.length) (by simp; omega) (l.take m) 0 _ a
    (fun j hj => by
      rw [htl] at hj
      rw [hl12]
      simp [hj]) (by simp; omega) (fun j hj => by omega) inv0 (by rw [htl]; exact hlex) (wpCalm_of_quiet _ _ h)
  have h6 := wpAny_of_anyL (Q := Q) (g := l.toArray.size - n) (fun listed a' G w' hw' hL => by
    have hdl : (l.drop n).length = l.toArray.size - n := by simp
    have := wpAny_of_seq (P := P) (md := .any) (Q' := Q) (l.drop n) n listed a' w' (fun j => by simp [List.getElem?_drop]) (by rw [hdl]; exact hL.1) (hL.2 w' hw')
    rwa [hdl] at this) _ _ _ _ W.drew ⟨(Below.refl _ _).drew, fun k o hk => by cases hk⟩ H
  rw [htl, show n + (l.toArray.size - n) = l.toArray.size by omega] at h6
  exact h6

/-- The law, within a round. -/
theorem wpIn_region_calmN {id r k : Nat} {a : Act} {l : List Oper} (m n : Nat) (ns : List (Obj × (Nat → Value))) (hm : P.follows .mixedOrders = true)
    (hn : n = m + ns.length) (hle : n ≤ l.length) (hB : calmB .any l.toArray n = true) (hnd : plainOps l = true) (hlo : ¬ LetsOut Q)
    (h : ∀ M : In W, wpQuiet P l.toArray (fun w' => ∃ n : In M.w, w' = n.w) (fun a' => wpNews P l.toArray W (fun a'' G => ∀ w', Held W G w' → wpList P l.toArray Q (l.drop n) a'' w') ((l.drop m).take ns.length) ns a' Gh.none) (l.take m) a) :
    (Code.region id l.toArray true).wpIn (Fence.wide.inRound r) k P Q a W := by
  refine wpIn_region_draw fun t => wpOpsIn_of (plainOps_no hnd) hlo _ _ _ ?_
  simp only [Region.schedule, hm, Bool.true_or, if_true]
  exact wpAny_sound _ t _ a _ (wpAny_calm m n ns hn hle hB h)
end
end Go.Proofs.Ytibeljppjaenbaa
