/- Lists of numbers of one's own: made with so many zeros; one written in its place. FOR ALL LATER STAGES. -/
import Derived.Test.YtnfdhlkngjplkaaApp1
import Derived.Laws.MakeOwn
import Derived.Laws.OwnMore
namespace Go.Proofs.Ytnfdhlkngjplkaa
open Go.RowKit

theorem flatsI_set : ∀ (L : List Int) (i : Nat) (x : Int), flats csI (L.set i x) = (flats csI L).set i (.int .i64 x)
  | [], _, _ => rfl
  | y :: L, 0, x => rfl
  | y :: L, i + 1, x => by
    have e1 : flats csI ((y :: L).set (i + 1) x) = csI y ++ flats csI (L.set i x) := rfl
    have e2 : flats csI (y :: L) = csI y ++ flats csI L := rfl
    rw [e1, e2, flatsI_set L i x]
    rfl
theorem OwnI.put {w : World} {B g n cap : Nat} {L : List Int} (h : OwnI w B (.slice (some ⟨g, 0, none⟩) n cap) L) (i : Nat) (x : Int) :
    OwnI (w.setCell ⟨g, i, none⟩ (.int .i64 x)) B (.slice (some ⟨g, 0, none⟩) n cap) (L.set i x) := by
  unfold OwnI OwnR at *
  rw [List.length_set, flatsI_set]
  refine ⟨by rw [List.length_set]; exact h.1, ?_⟩
  rcases h.2 with ⟨h0, _⟩ | ⟨g', cap', cur, e, hg, hh, hnc, hcp, hcs, htake⟩
  · cases h0
  · cases e
    refine .inr ⟨g, cap, cur.setIfInBounds i (.int .i64 x), rfl, hg, ?_, hnc, hcp, by simpa using hcs, ?_⟩
    · unfold World.setCell
      simp only [Array.getElem?_modify, if_pos, hh, Option.map_some]
      rfl
    · rw [Array.toList_setIfInBounds, List.take_set, htake]
/-- where it lies -/
theorem OwnI.place {w : World} {B : Nat} {v : Value} {L : List Int} (h : OwnI w B v L) (i : Nat) (hi : i < L.length) : ∃ g cap, v = .slice (some ⟨g, 0, none⟩) L.length cap ∧ B ≤ g ∧ L.length ≤ cap ∧ g < w.heap.size ∧ w.cell? ⟨g, i, none⟩ = some (.int .i64 (L[i]'hi)) ∧ w.frozen? ⟨g, i, none⟩ = false := by
  rcases h.2 with ⟨rfl, h0⟩ | ⟨g, cap, cur, rfl, hg, hh, hnc, hcp, hcs, htake⟩
  · omega
  · refine ⟨g, cap, rfl, hg, hnc, lt_of_block hh, ?_, by simp [World.frozen?, hh]⟩
    have h1 := flats_at csI_len L i _ (List.getElem?_eq_getElem hi) 0 (.int .i64 (L[i]'hi)) rfl
    rw [Nat.mul_one, Nat.add_zero, ← htake, List.getElem?_take_of_lt (by omega)] at h1
    simp only [World.cell?, hh]
    simpa using h1
theorem makeI (w : World) (n : Nat) (hn : n ≤ 1000000) : ∃ w', (Instr.makeSlice 22 (.int .i64 (n : Int)) (.int .i64 (n : Int))).run Try.prog w = .ok (.slice (some ⟨w.heap.size, 0, none⟩) n n) w' ∧ OwnI w' w.heap.size (.slice (some ⟨w.heap.size, 0, none⟩) n n) (List.replicate n 0) ∧ Below w.heap.size w w' := by
  obtain ⟨i0, hi, hz0, hz1, hz2⟩ := info_parts info_int
  have hmk := run_make (P := Try.prog) w 22 3 i0 (.int .i64 0) Try.underlying22 hi hz0 .i64 .i64 n n (by omega) (Int.le_refl _) (by rw [hz2]; omega) (by omega)
  rw [Int.toNat_natCast, hz1, Nat.mul_one] at hmk
  refine ⟨_, hmk, ?_, (Below.refl _ _).alloc (Nat.le_refl _) _⟩
  unfold OwnI OwnR
  rw [List.length_replicate]
  refine ⟨by rw [flats_length csI_len, List.length_replicate], .inr ⟨w.heap.size, n, _, rfl, Nat.le_refl _, heap_alloc_new w _, Nat.le_refl _, by unfold maxLen; omega, ?_, ?_⟩⟩
  · rw [size_madeCells]
    simp
  · show ((madeCells #[.int .i64 0] n).toList).take (n * 1) = _
    rw [toList_madeCells_one, Nat.mul_one, List.take_of_length_le (by simp)]
    clear hmk hn
    induction n with
    | zero => rfl
    | succ n ih =>
      rw [List.replicate_succ, List.replicate_succ, ih]
      rfl
end Go.Proofs.Ytnfdhlkngjplkaa
