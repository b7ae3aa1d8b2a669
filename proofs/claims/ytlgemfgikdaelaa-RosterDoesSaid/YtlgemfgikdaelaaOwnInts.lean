/- Lists of numbers that a call gathers; are two lists of numbers the same. -/
import Derived.Test.YtlgemfgikdaelaaIntsAt
import Derived.Test.YtlgemfgikdaelaaFlat
namespace Go.Proofs.Ytlgemfgikdaelaa
open Go.RowKit

theorem beq_noI {a b : Int} (h : a ≠ b) : (a == b) = false := by simp [h]
def csI (n : Int) : List Value := [.int .i64 n]
theorem csI_len (n : Int) : (csI n).length = 1 := rfl
theorem info_int : (Try.prog.info? 3).map (fun i => (i.zero, i.size, i.bytes)) = some (some (.int .i64 0), 1, 8) := by kernel_rfl
theorem IntsAt.rows {w : World} {v : Value} {l : List Int} (h : IntsAt w v l) : RowsAt w 1 csI v l := by
  obtain ⟨a, cap, e, hc, h⟩ := h
  refine ⟨a, cap, e, hc, fun h0 => ?_⟩
  obtain ⟨g, o, e1, hg, hx⟩ := h h0
  refine ⟨g, o, e1, hg, fun j x hj i u hu => ?_⟩
  have h0 : i = 0 ∧ u = .int .i64 x := by
    cases i with
    | zero => simp [csI] at hu; exact ⟨rfl, hu.symm⟩
    | succ i => simp [csI] at hu
  obtain ⟨rfl, rfl⟩ := h0
  rw [Nat.mul_one, Nat.add_zero]
  exact hx j x hj
theorem RowsAt.ints {w : World} {v : Value} {l : List Int} (h : RowsAt w 1 csI v l) : IntsAt w v l := by
  obtain ⟨a, cap, e, hc, h⟩ := h
  refine ⟨a, cap, e, hc, fun h0 => ?_⟩
  obtain ⟨g, o, e1, hg, hx⟩ := h h0
  refine ⟨g, o, e1, hg, fun j x hj => ?_⟩
  have := hx j x hj 0 _ rfl
  rwa [Nat.mul_one, Nat.add_zero] at this
/-- numbers that the call gathers by itself -/
abbrev OwnI (w : World) (B : Nat) (v : Value) (l : List Int) : Prop := OwnR w B 3 1 csI v l
theorem OwnI.ints {w : World} {B : Nat} {v : Value} {l : List Int} (h : OwnI w B v l) : IntsAt w v l := (OwnR.rows csI_len h).ints
theorem IntsAt.form {w : World} {v : Value} {l : List Int} (h : IntsAt w v l) : ∃ a c, v = .slice a l.length c := by
  obtain ⟨a, c, e, _⟩ := h
  exact ⟨a, c, e⟩
theorem IntsAt.spot {w : World} {v : Value} {l : List Int} (h : IntsAt w v l) (k : Nat) (hk : k < l.length) : ∃ g o c, v = .slice (some ⟨g, o, none⟩) l.length c ∧ l.length ≤ c ∧ g < w.heap.size ∧ w.cell? ⟨g, o + k, none⟩ = some (.int .i64 l[k]) := by
  obtain ⟨a, c, rfl, hc, hx⟩ := h
  obtain ⟨g, o, rfl, hg, hxa⟩ := hx (by omega)
  exact ⟨g, o, c, rfl, hc, hg, hxa k _ (List.getElem?_eq_getElem hk)⟩

end Go.Proofs.Ytlgemfgikdaelaa
