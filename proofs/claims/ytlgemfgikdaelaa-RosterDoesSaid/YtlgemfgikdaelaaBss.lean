/- Lists of lists of bytes in memory. -/
import Derived.Test.YtlgemfgikdaelaaBytes
import Derived.Maps.AppendAt
namespace Go.Proofs.Ytlgemfgikdaelaa
open Go.RowKit

abbrev Sl := Option Addr × Nat × Nat
def sl (t : Sl) : Value := .slice t.1 t.2.1 t.2.2
def csS (t : Sl) : List Value := [sl t]
theorem csS_len (t : Sl) : (csS t).length = 1 := rfl
theorem csS_one (t : Sl) : ∀ u ∈ csS t, u.oneCell' = true := by
  intro u hu
  simp [csS, sl] at hu
  subst hu
  rfl
/-- the lists that the cells name; none of them lies in the block ob -/
def EachB (w : World) (ob : Option Nat) (ts : List Sl) (L : List (List UInt8)) : Prop :=
  ts.length = L.length ∧ ∀ (j : Nat) (t : Sl) (l : List UInt8), ts[j]? = some t → L[j]? = some l → BytesAt w (sl t) l ∧ (0 < l.length → ∀ a, t.1 = some a → some a.block ≠ ob)
def BssAt (w : World) (v : Value) (L : List (List UInt8)) : Prop := ∃ ts, RowsAt w 1 csS v ts ∧ EachB w none ts L
theorem EachB.kept {w w' : World} {ob : Option Nat} {ts : List Sl} {L : List (List UInt8)} (h : EachB w ob ts L) (hb : Below w.heap.size w w') : EachB w' ob ts L :=
  ⟨h.1, fun j t l h1 h2 => ⟨(h.2 j t l h1 h2).1.kept hb, (h.2 j t l h1 h2).2⟩⟩
theorem EachB.free {w : World} {ob : Option Nat} {ts : List Sl} {L : List (List UInt8)} (h : EachB w ob ts L) : EachB w none ts L :=
  ⟨h.1, fun j t l h1 h2 => ⟨(h.2 j t l h1 h2).1, fun _ a _ e => by cases e⟩⟩
theorem BytesAt.grown {w w' : World} {row : Option Nat} {t : Sl} {l : List UInt8} (h : BytesAt w (sl t) l) (hg : w.grownBy w' row) (ha : 0 < l.length → ∀ a, t.1 = some a → some a.block ≠ row) : BytesAt w' (sl t) l := by
  obtain ⟨a, c, e, hc, hx⟩ := h
  refine ⟨a, c, e, hc, fun h0 => ?_⟩
  obtain ⟨g, o, e1, hgs, hcell⟩ := hx h0
  have e2 : t.1 = some ⟨g, o, none⟩ := by
    subst e1
    obtain ⟨t1, t2, t3⟩ := t
    simp only [sl, Value.slice.injEq] at e
    exact e.1
  have hne := ha h0 _ e2
  exact ⟨g, o, e1, Nat.lt_of_lt_of_le hgs hg.size, fun j x hj i u hu => hg.cell (hcell j x hj i u hu) hne⟩
theorem BytesAt.block {w : World} {t : Sl} {l : List UInt8} (h : BytesAt w (sl t) l) (h0 : 0 < l.length) (a : Addr) (ha : t.1 = some a) : a.block < w.heap.size := by
  obtain ⟨b, c, e, hc, hx⟩ := h
  obtain ⟨g, o, e1, hgs, _⟩ := hx h0
  subst e1
  obtain ⟨t1, t2, t3⟩ := t
  simp only [sl, Value.slice.injEq] at e
  rw [e.1] at ha
  cases ha
  exact hgs
theorem EachB.grow {w w' : World} {ob ob' : Option Nat} {ts : List Sl} {L : List (List UInt8)} (h : EachB w ob ts L) (hg : w.grownBy w' ob) (h4 : ob' = ob ∨ ob' = some w.heap.size) : EachB w' ob' ts L := by
  refine ⟨h.1, fun j t l h1 h2 => ?_⟩
  obtain ⟨hb, ha⟩ := h.2 j t l h1 h2
  refine ⟨hb.grown hg ha, fun h0 a e => ?_⟩
  rcases h4 with rfl | rfl
  · exact ha h0 a e
  · intro he
    have := hb.block h0 a e
    have := Option.some.inj he
    omega
theorem EachB.snoc {w : World} {ob : Option Nat} {ts : List Sl} {L : List (List UInt8)} {t : Sl} {l : List UInt8} (h : EachB w ob ts L) (ht : BytesAt w (sl t) l) (ha : 0 < l.length → ∀ a, t.1 = some a → some a.block ≠ ob) : EachB w ob (ts ++ [t]) (L ++ [l]) := by
  refine ⟨by simp [h.1], fun j t' l' h1 h2 => ?_⟩
  rcases Nat.lt_trichotomy j ts.length with hj | hj | hj
  · rw [List.getElem?_append_left hj] at h1
    rw [List.getElem?_append_left (by have := h.1; omega)] at h2
    exact h.2 j t' l' h1 h2
  · subst hj
    rw [List.getElem?_append_right (Nat.le_refl _), Nat.sub_self] at h1
    rw [h.1, List.getElem?_append_right (Nat.le_refl _), Nat.sub_self] at h2
    simp at h1 h2
    subst h1
    subst h2
    exact ⟨ht, ha⟩
  · rw [List.getElem?_eq_none (by simp; omega)] at h1
    cases h1
theorem BssAt.kept {w w' : World} {v : Value} {L : List (List UInt8)} (h : BssAt w v L) (hb : Below w.heap.size w w') : BssAt w' v L := by
  obtain ⟨ts, h1, h2⟩ := h
  exact ⟨ts, h1.kept hb, h2.kept hb⟩
theorem BssAt.nil (w : World) : BssAt w (.slice none 0 0) [] := ⟨[], RowsAt.nil _ _ _, rfl, fun j t l h => by simp at h⟩
theorem BssAt.form {w : World} {v : Value} {L : List (List UInt8)} (h : BssAt w v L) : ∃ a c, v = .slice a L.length c := by
  obtain ⟨ts, h1, h2⟩ := h
  obtain ⟨a, c, e⟩ := h1.form
  rw [h2.1] at e
  exact ⟨a, c, e⟩
/-- the cell of one, and what it names -/
theorem BssAt.at {w : World} {v : Value} {L : List (List UInt8)} (h : BssAt w v L) (k : Nat) (hk : k < L.length) :
    ∃ g o c a n, v = .slice (some ⟨g, o, none⟩) L.length c ∧ g < w.heap.size ∧ w.cell? ⟨g, o + k, none⟩ = some (.slice a L[k].length n) ∧ BytesAt w (.slice a L[k].length n) L[k] := by
  obtain ⟨ts, h1, h2⟩ := h
  obtain ⟨a, c, e, hc, hx⟩ := h1
  have hkt : k < ts.length := by rw [h2.1]; exact hk
  obtain ⟨g, o, e', hg, hcell⟩ := hx (by omega)
  subst e'
  have hb := (h2.2 k ts[k] L[k] (List.getElem?_eq_getElem hkt) (List.getElem?_eq_getElem hk)).1
  obtain ⟨a', n, e2⟩ := RowsAt.form hb
  have hcl := hcell k ts[k] (List.getElem?_eq_getElem hkt) 0 (sl ts[k]) rfl
  rw [e2] at hb hcl
  rw [h2.1] at e
  refine ⟨g, o, c, a', n, e, hg, ?_, hb⟩
  rw [← hcl]
  congr 2
  simp
end Go.Proofs.Ytlgemfgikdaelaa
