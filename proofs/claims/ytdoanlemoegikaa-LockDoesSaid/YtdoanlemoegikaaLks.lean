/- Links of a chain (XChain): lists of numbers that a call hands back, answers that are settled. FOR ALL LATER STAGES. -/
import Derived.Test.YtdoanlemoegikaaChainO
import Derived.Test.YtdoanlemoegikaaOwnInts
namespace Go.Proofs.Ytdoanlemoegikaa
open Go.RowKit

/-- a list of numbers somewhere in memory -/
def lkIL (L : List Int) (n : Nat) : Lk := ⟨Option Addr × Nat, ⟨(none, 0)⟩, fun x => .slice x.1 n x.2, fun x w => IntsAt w (.slice x.1 n x.2) L⟩
theorem lkIL_at {P : Program} {o : Oper} {a : Act} {W : World} {G : World → Prop} {L : List Int} {n : Nat} {f : FuncId} {args : Array Value} (hn : n = L.length) (he : ∀ k : In W, (execOp a.eval o).run P k.w = .ok (.enter f args) k.w)
    (hc : ∀ k : In W, Calls P f args k.w fun e w' => ∃ v, e = .returned v ∧ IntsAt w' v L ∧ Below k.w.heap.size k.w w') : (lkIL L n).at P o a W G :=
  ⟨fun _ _ _ h hb => IntsAt.below h hb, fun k _ => by
    subst hn
    rw [he k]
    refine ⟨rfl, (hc k).mono ?_⟩
    rintro e w' ⟨v, rfl, h1, h2⟩
    obtain ⟨b, c, rfl⟩ := h1.form
    exact ⟨(b, c), rfl, h1, h2.mono k.h.size⟩⟩
/-- a call whose answer is settled, over what the link ahead has left -/
theorem lkSure_at {P : Program} {o : Oper} {a : Act} {W : World} {G : World → Prop} {v : Value} {f : FuncId} {args : Array Value} (he : ∀ k : In W, (execOp a.eval o).run P k.w = .ok (.enter f args) k.w)
    (hc : ∀ k : In W, G k.w → Calls P f args k.w fun e w' => e = .returned v ∧ Below k.w.heap.size k.w w') : (Lk.val1 v).at P o a W G :=
  ⟨fun _ _ _ _ _ => trivial, fun k hk => by
    rw [he k]
    refine ⟨rfl, (hc k hk).mono ?_⟩
    rintro e w' ⟨rfl, hb⟩
    exact ⟨(), rfl, trivial, hb.mono k.h.size⟩⟩
/-- two links, the one ahead of the other: asked one way round only (the other way 'beforeB' goes through every path: a great region then outgrows the kernel's memory) -/
theorem chainOf_two {md : Region.Mode} {ops : Array Oper} {i j : Nat} (h : beforeB md ops ops.size i j = true) : chainOf md ops [i, j] = true := by
  simp [chainOf, h]
end Go.Proofs.Ytdoanlemoegikaa
