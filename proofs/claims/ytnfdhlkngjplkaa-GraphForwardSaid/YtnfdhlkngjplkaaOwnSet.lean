/- Lists of one's own (XOwnO): a thing laid in place, the first ones alone, what stands at a place. FOR ALL STAGES WITH STATE. -/
import Derived.Test.YtnfdhlkngjplkaaOwnO
namespace Go.Proofs.Ytnfdhlkngjplkaa
open Go.RowKit

section
variable {α : Type} {w w' : World} {K : Nat} {cs : α → List Value} {v : Value} {l : List α}
theorem OwnO.spot (hK : ∀ x, (cs x).length = K) (h : OwnO w K cs v l) (i : Nat) (hi : i < l.length) : ∃ g o cap, v = .slice (some ⟨g, o, none⟩) l.length cap ∧ g < w.heap.size ∧ l.length ≤ cap ∧
    ∀ j u, (cs l[i])[j]? = some u → w.cell? ⟨g, o + i * K + j, none⟩ = some u ∧ w.frozen? ⟨g, o + i * K + j, none⟩ = false := by
  have hr := h.rows hK
  rcases h with ⟨_, rfl⟩ | ⟨g, o, cap, rfl, hg, hl, hc, h1, h2⟩
  · simp at hi
  · obtain ⟨a, c, e, _, hx⟩ := hr
    cases e
    obtain ⟨g', o', e, _, hx⟩ := hx (by omega)
    cases e
    refine ⟨g, o, cap, rfl, hg, hl, fun j u hu => ⟨hx i l[i] (List.getElem?_eq_getElem hi) j u hu, ?_⟩⟩
    have hj : j < K := by rw [← hK l[i]]; exact (List.getElem?_eq_some_iff.1 hu).1
    have := (h2 (i * K + j) (by
      have h3 : (i + 1) * K ≤ cap * K := Nat.mul_le_mul_right K (by omega)
      rw [Nat.add_mul] at h3
      omega)).2
    rwa [← Nat.add_assoc] at this
theorem OwnO.put (hK : ∀ x, (cs x).length = K) {g o n cap : Nat} (h : OwnO w K cs (.slice (some ⟨g, o, none⟩) n cap) l) (i : Nat) (hi : i < l.length) (x : α) (hz : w.heap.size ≤ w'.heap.size)
    (hin : ∀ j, j < K → w'.cell? ⟨g, o + i * K + j, none⟩ = (cs x)[j]?)
    (hout : ∀ m, m < cap * K → ¬ (i * K ≤ m ∧ m < i * K + K) → w'.cell? ⟨g, o + m, none⟩ = w.cell? ⟨g, o + m, none⟩)
    (hfz : ∀ a, w'.frozen? a = w.frozen? a) : OwnO w' K cs (.slice (some ⟨g, o, none⟩) n cap) (l.set i x) := by
  rcases h with ⟨e, _⟩ | ⟨g', o', cap', e, hg, hl, hc, h1, h2⟩
  · cases e
  · cases e
    refine .inr ⟨g, o, cap, by rw [List.length_set], by omega, by rw [List.length_set]; exact hl, hc, fun m hm => ?_, fun m hm => ⟨?_, by rw [hfz]; exact (h2 m hm).2⟩⟩
    · rw [List.length_set] at hm
      have hK0 : 0 < K := Nat.pos_of_ne_zero fun e => by subst e; simp at hm
      have hq : m / K < l.length := (Nat.div_lt_iff_lt_mul hK0).2 hm
      have hr : m % K < K := Nat.mod_lt _ hK0
      have e : m / K * K + m % K = m := by rw [Nat.mul_comm]; exact Nat.div_add_mod m K
      have hmc : m < cap * K := Nat.lt_of_lt_of_le hm (Nat.mul_le_mul_right K hl)
      by_cases hqi : m / K = i
      · have hu : (cs x)[m % K]? = some ((cs x)[m % K]'(by rw [hK]; exact hr)) := List.getElem?_eq_getElem _
        have h3 := flats_at hK (l.set i x) (m / K) x (by rw [List.getElem?_set, if_pos hqi.symm, if_pos hi]) (m % K) _ hu
        rw [e] at h3
        rw [h3, ← hu, ← hin _ hr, ← hqi, Nat.add_assoc, e]
      · have hu : (cs l[m / K])[m % K]? = some ((cs l[m / K])[m % K]'(by rw [hK]; exact hr)) := List.getElem?_eq_getElem _
        have h3 := flats_at hK (l.set i x) (m / K) l[m / K] (by rw [List.getElem?_set, if_neg (fun h => hqi h.symm)]; exact List.getElem?_eq_getElem hq) (m % K) _ hu
        have h4 := flats_at hK l (m / K) l[m / K] (List.getElem?_eq_getElem hq) (m % K) _ hu
        rw [e] at h3 h4
        rw [h3, ← h4, ← h1 m hm]
        refine hout m hmc fun hh => hqi ?_
        have h5 : m / K < i + 1 := (Nat.div_lt_iff_lt_mul hK0).2 (by rw [Nat.add_mul]; omega)
        have h6 : i ≤ m / K := (Nat.le_div_iff_mul_le hK0).2 hh.1
        omega
    · by_cases hh : i * K ≤ m ∧ m < i * K + K
      · have := hin (m - i * K) (by omega)
        rw [Nat.add_assoc, show i * K + (m - i * K) = m by omega] at this
        rw [this, List.getElem?_eq_getElem (by rw [hK]; omega)]
        rfl
      · rw [hout m hm hh]
        exact (h2 m hm).1
/-- the first k of them -/
theorem OwnO.take {a : Option Addr} {n cap : Nat} (hK : ∀ x, (cs x).length = K) (h : OwnO w K cs (.slice a n cap) l) (k : Nat) (hk : k ≤ l.length) : OwnO w K cs (.slice a k cap) (l.take k) := by
  rcases h with ⟨e, rfl⟩ | ⟨g, o, cap', e, hg, hl, hc, h1, h2⟩
  · cases e
    have : k = 0 := by simpa using hk
    subst this
    exact .inl ⟨rfl, rfl⟩
  · cases e
    have hlen : (l.take k).length = k := by rw [List.length_take]; omega
    refine .inr ⟨g, o, cap, by rw [hlen], hg, by omega, hc, fun m hm => ?_, h2⟩
    rw [hlen] at hm
    have hm2 : m < l.length * K := Nat.lt_of_lt_of_le hm (Nat.mul_le_mul_right K hk)
    rw [h1 m hm2]
    have e : flats cs l = flats cs (l.take k) ++ flats cs (l.drop k) := by rw [← flats_append, List.take_append_drop]
    rw [e, List.getElem?_append_left (by rw [flats_length hK, hlen]; exact hm)]
/-- a struct of three cells is stored -/
theorem OwnO.put3 {g o n cap : Nat} (hK : ∀ x, (cs x).length = 3) (h : OwnO w 3 cs (.slice (some ⟨g, o, none⟩) n cap) l) (i : Nat) (hi : i < l.length) (x : α) (u0 u1 u2 : Value) (hx : cs x = [u0, u1, u2]) :
    OwnO (((w.setCell ⟨g, o + i * 3, none⟩ u0).setCell ⟨g, o + i * 3 + 1, none⟩ u1).setCell ⟨g, o + i * 3 + 2, none⟩ u2) 3 cs (.slice (some ⟨g, o, none⟩) n cap) (l.set i x) := by
  have hl : l.length ≤ cap := by
    rcases h with ⟨e, _⟩ | ⟨g', o', cap', e, hg, hl, _⟩
    · cases e
    · cases e; exact hl
  have hs : ∀ j, j < 3 → (w.cell? ⟨g, o + i * 3 + j, none⟩).isSome = true := by
    intro j hj
    rcases h with ⟨e, _⟩ | ⟨g', o', cap', e, hg, hl, hc, h1, h2⟩
    · cases e
    · cases e
      have := (h2 (i * 3 + j) (by omega)).1
      rwa [← Nat.add_assoc] at this
  refine OwnO.put hK h i hi x (by simp [World.setCell]) (fun j hj => ?_) (fun m hm hh => ?_) (fun a => by rw [World.frozen?_setCell, World.frozen?_setCell, World.frozen?_setCell])
  · rw [hx]
    have hs0 := hs 0 (by omega)
    have hs1 := hs 1 (by omega)
    have hs2 := hs 2 (by omega)
    rw [Nat.add_zero] at hs0
    match j, hj with
    | 0, _ =>
      rw [Nat.add_zero, World.cell?_setCell_other _ _ _ _ (by intro e; simp at e), World.cell?_setCell_other _ _ _ _ (by intro e; simp at e)]
      obtain ⟨y, hy⟩ := Option.isSome_iff_exists.1 hs0
      exact World.cell?_setCell_same _ _ _ (by rw [hy])
    | 1, _ =>
      rw [World.cell?_setCell_other _ _ _ _ (by intro e; simp at e)]
      obtain ⟨y, hy⟩ := Option.isSome_iff_exists.1 hs1
      exact World.cell?_setCell_same _ _ _ (by rw [World.cell?_setCell_other _ _ _ _ (by intro e; simp at e), hy])
    | 2, _ =>
      obtain ⟨y, hy⟩ := Option.isSome_iff_exists.1 hs2
      exact World.cell?_setCell_same _ _ _ (by rw [World.cell?_setCell_other _ _ _ _ (by intro e; simp at e), World.cell?_setCell_other _ _ _ _ (by intro e; simp at e), hy])
  · rw [World.cell?_setCell_other _ _ _ _ (by intro e; injection e; omega), World.cell?_setCell_other _ _ _ _ (by intro e; injection e; omega), World.cell?_setCell_other _ _ _ _ (by intro e; injection e; omega)]
end
end Go.Proofs.Ytnfdhlkngjplkaa
