/- Stage 15: the program keeps its contracts. -/
import Derived.Test.YtkhnkhkpjgemkaaAqD
import Derived.Test.YtkhnkhkpjgemkaaAqBase
namespace Go.Proofs.Ytkhnkhkpjgemkaa
open Go.RowKit

theorem mv_same {P : Program} {f : Nat} {args : Array Value} {w : World} {r : Value} {F : Nat → Prop} {X : (Nat → Prop) → World → Prop} (h : Calls P f args w fun e w' => e = .returned r ∧ Below w.heap.size w w') (hX : ∀ w', Below w.heap.size w w' → X F w') :
    Calls P f args w fun e w' => e = .returned r ∧ ∃ F', X F' w' ∧ Mv F F' w w' := h.mono fun _ w' ⟨he, hb⟩ => ⟨he, F, hX w' hb, Mv.of_below hb⟩
/-- a queue where a pointer points -/
def AqAt (F : Nat → Prop) (w : World) (v : Value) (q : Aq) : Prop := ∃ p, v = ptr13 p ∧ QAt F w p q.now q.rate q.l
noncomputable def aqProg : AqProg where
  At := AqAt
  same := fun ⟨p, e, h⟩ hz he => ⟨p, e, h.out hz he⟩
  lt := fun ⟨_, _, h⟩ => h.lt
  new := fun rate now w => (kNew_any rate now w).mono fun _ _ ⟨p, F, he, h1, h2, h3⟩ => ⟨_, F, he, ⟨p, rfl, h1⟩, h2, h3⟩
  put := fun {F w v q} x ⟨p, e, h⟩ hl hx => by
    subst e
    refine (kPut_any x h hl hx).mono fun _ w' ⟨he, F', h1, h2⟩ => ⟨he, F', ⟨p, rfl, ?_⟩, h2⟩
    have e1 : (putA q x).1.now = q.now ∧ (putA q x).1.rate = q.rate := by
      unfold putA
      split
      · exact ⟨rfl, rfl⟩
      · split <;> exact ⟨rfl, rfl⟩
    rw [e1.1, e1.2]
    exact h1
  drop := fun {F w v q} id ⟨p, e, h⟩ hl hx => by
    subst e
    exact (kDrop_any id h hl hx).mono fun _ w' ⟨he, F', h1, h2⟩ => ⟨he, F', ⟨p, rfl, h1⟩, h2⟩
  toN := fun {F w v q} m ⟨p, e, h⟩ hl => by
    subst e
    exact (kTo_any m h hl).mono fun _ w' ⟨he, F', h1, h2⟩ => ⟨he, F', ⟨p, rfl, h1⟩, h2⟩
  now := fun {F w v q} ⟨p, e, h⟩ => by
    subst e
    exact mv_same (X := fun F w => AqAt F w (ptr13 p) q) (kNow_any h) fun w' hb => ⟨p, rfl, h.kept hb⟩
  first := fun {F w v q} ⟨p, e, h⟩ hl => by
    subst e
    exact mv_same (X := fun F w => AqAt F w (ptr13 p) q) (kFirst_any h hl) fun w' hb => ⟨p, rfl, h.kept hb⟩
  find := fun {F w v q} id ⟨p, e, h⟩ hl hx => by
    subst e
    exact mv_same (X := fun F w => AqAt F w (ptr13 p) q) (kFind_any id h hx) fun w' hb => ⟨p, rfl, h.kept hb⟩
  list := fun {F w v q} ⟨p, e, h⟩ hl => by
    subst e
    exact (kList_any h hl).mono fun _ w' ⟨v, he, ho, hb⟩ => ⟨v, F, he, ⟨p, rfl, h.kept hb⟩, Mv.of_below hb, ho, OwnR.off ho h.lt⟩
  len := fun {F w v q} ⟨p, e, h⟩ => by
    subst e
    exact mv_same (X := fun F w => AqAt F w (ptr13 p) q) (kLen_any h) fun w' hb => ⟨p, rfl, h.kept hb⟩
  put_nil := kPut_nil
  drop_nil := kDrop_nil
  to_nil := kTo_nil
  now_nil := kNow_nil
  first_nil := kFirst_nil
  len_nil := kLen_nil
  age := aOf_any
end Go.Proofs.Ytkhnkhkpjgemkaa
