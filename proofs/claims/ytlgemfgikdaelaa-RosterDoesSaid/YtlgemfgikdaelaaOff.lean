/- Lists in memory that lie outside what an object has. -/
import Derived.Test.YtlgemfgikdaelaaOwnO
namespace Go.Proofs.Ytlgemfgikdaelaa
open Go.RowKit

/-- a list of n things that lies outside X -/
def OffV (X : Nat → Prop) (v : Value) (n : Nat) : Prop := 0 < n → ∀ g, v.ownBlock = some g → ¬ X g
section
variable {α : Type} {w w' : World} {K : Nat} {cs : α → List Value} {v : Value} {l : List α} {F F' X Y : Nat → Prop}
theorem RowsAt.lt (h : RowsAt w K cs v l) (h0 : 0 < l.length) : ∀ g, v.ownBlock = some g → g < w.heap.size := by
  obtain ⟨a, c, rfl, hc, hx⟩ := h
  obtain ⟨g, o, rfl, hg, _⟩ := hx h0
  intro k hk
  simp [Value.ownBlock] at hk
  omega
theorem RowsAt.same (h : RowsAt w K cs v l) (hz : w.heap.size ≤ w'.heap.size) (he : 0 < l.length → ∀ g, v.ownBlock = some g → w'.heap[g]? = w.heap[g]?) : RowsAt w' K cs v l := by
  obtain ⟨a, c, rfl, hc, hx⟩ := h
  refine ⟨a, c, rfl, hc, fun h0 => ?_⟩
  obtain ⟨g, o, rfl, hg, hcell⟩ := hx h0
  have e := he h0 g rfl
  exact ⟨g, o, rfl, by omega, fun j x hj i u hu => (World.cell?_of_block (a := ⟨g, o + j * K + i, none⟩) e).trans (hcell j x hj i u hu)⟩
theorem RowsAt.only (h : RowsAt w K cs v l) (ho : Only F w w') (hf : OffV F v l.length) : RowsAt w' K cs v l := h.same ho.size fun h0 g hg => ho.block g (h.lt h0 g hg) (hf h0 g hg)
theorem RowsAt.awayV (h : RowsAt w K cs v l) (a : Addr) (u : Value) (hf : OffV (fun k => k = a.block) v l.length) : RowsAt (w.setCell a u) K cs v l :=
  h.same (by simp [World.setCell]) fun h0 g hg => Below.heap_setCell w a u g (hf h0 g hg)
theorem OffV.mv (h : OffV F v l.length) (hb : RowsAt w K cs v l) (hm : Mv F F' w w') : OffV F' v l.length := fun h0 g hg => hm.off (hb.lt h0 g hg) (h h0 g hg)
theorem OffV.mono {n : Nat} (h : OffV X v n) (hs : ∀ k, Y k → X k) : OffV Y v n := fun h0 g hg hy => h h0 g hg (hs g hy)
theorem OffV.nil : OffV X v 0 := fun h => absurd h (Nat.lt_irrefl 0)
/-- what a call has gathered by itself lies outside what was there -/
theorem OwnR.off {B n : Nat} {e : TypeId} (h : OwnR w B e K cs v l) (hX : ∀ k, X k → k < B) : OffV X v n := fun _ g hg hx => by
  have h1 := (World.ownsRow.lt h g hg).1
  have h2 := hX g hx
  omega
end
/-- the rest of a list, as the model cuts it -/
theorem restAt13 {α : Type} {w : World} {K : Nat} {cs : α → List Value} {a : Option Addr} {n c : Nat} {l : List α} (h : RowsAt w K cs (.slice a n c) l) (k : Nat) (hk : k ≤ l.length) (a' : Option Addr) (ha : k < c → ∀ g o, a = some ⟨g, o, none⟩ → a' = some ⟨g, o + k * K, none⟩) : RowsAt w K cs (.slice a' (n - k) (c - k)) (l.drop k) := by
  obtain ⟨a0, c0, e, hc, hx⟩ := h
  cases e
  refine ⟨a', c - k, by rw [List.length_drop], by rw [List.length_drop]; omega, fun h0 => ?_⟩
  rw [List.length_drop] at h0
  obtain ⟨g, o, rfl, hg, hcell⟩ := hx (by omega)
  refine ⟨g, o + k * K, ha (by omega) g o rfl, hg, fun j x hj i u hu => ?_⟩
  rw [List.getElem?_drop] at hj
  have := hcell (k + j) x hj i u hu
  rw [Nat.add_mul] at this
  rw [← this]
  congr 2
  omega
theorem OwnR.base13 {α : Type} {w : World} {B B' : Nat} {e : TypeId} {K : Nat} {cs : α → List Value} {v : Value} {l : List α} (h : OwnR w B e K cs v l) (hB : B' ≤ B) : OwnR w B' e K cs v l := by
  refine ⟨h.1, ?_⟩
  rcases h.2 with h1 | ⟨g, cap, cur, e, hg, hr⟩
  · exact .inl h1
  · exact .inr ⟨g, cap, cur, e, Nat.le_trans hB hg, hr⟩
/-- a new row of nothing -/
theorem OwnR.empty (w : World) {α : Type} (K : Nat) (cs : α → List Value) (e : TypeId) (B : Nat) (hB : w.heap.size = B) : OwnR (w.alloc (.cells #[] e)) B e K cs (.slice (some ⟨B, 0, none⟩) 0 0) [] := by
  subst hB
  exact ⟨by simp [flats], .inr ⟨w.heap.size, 0, #[], rfl, Nat.le_refl _, heap_alloc_new w _, Nat.le_refl _, by simp [maxLen], by simp, by simp [flats]⟩⟩
end Go.Proofs.Ytlgemfgikdaelaa
