/- Stable sorting by merging in place: what a merge's parts do with a list. -/
import Derived.Test.YtoepodjpempcdaaStabMath
namespace Go.Proofs.Ytoepodjpempcdaa
open Go.Sort
variable {α : Type}

theorem get_at [Inhabited α] {d : Array α} {X L Y : List α} (h : d.toList = X ++ (L ++ Y)) {c k : Nat} (hk : k < L.length) (hc : c = X.length + k) : d[c]! = L[k] := by
  have h1 : d.toList = (X ++ L.take k) ++ L[k] :: (L.drop (k + 1) ++ Y) := by
    rw [h]
    conv => lhs; rw [← List.take_append_drop k L, List.drop_eq_getElem_cons hk]
    simp only [List.append_assoc, List.cons_append]
  exact get_split h1 (by simp; omega)
theorem ord_at [Inhabited α] {lt : α → α → Bool} (O : SWO lt) {d : Array α} {X L Y : List α} (h : d.toList = X ++ (L ++ Y)) (hL : Ord lt L) {c c' : Nat} (h1 : X.length ≤ c) (h2 : c ≤ c') (h3 : c' < X.length + L.length) : lt d[c']! d[c]! = false := by
  obtain ⟨k, rfl⟩ : ∃ k, c = X.length + k := ⟨c - X.length, by omega⟩
  obtain ⟨k', rfl⟩ : ∃ k, c' = X.length + k := ⟨c' - X.length, by omega⟩
  rw [get_at h (k := k) (by omega) rfl, get_at h (k := k') (by omega) rfl]
  by_cases e : k = k'
  · subst e; exact O.irrefl _
  · exact List.pairwise_iff_getElem.1 hL k k' (by omega) (by omega) (by omega)
theorem take_all [Inhabited α] {Q : α → Prop} {d : Array α} {X V Y : List α} (h : d.toList = X ++ (V ++ Y)) {m t : Nat} (hm : m = X.length) (ha : ∀ c, m ≤ c → c < m + t → Q d[c]!) : ∀ v ∈ V.take t, Q v := by
  intro v hv
  obtain ⟨k, hk, rfl⟩ := List.getElem_of_mem hv
  have hk' : k < t ∧ k < V.length := by rw [List.length_take] at hk; omega
  have := ha (m + k) (by omega) (by omega)
  rw [get_at h hk'.2 (by omega)] at this
  simpa using this
theorem drop_all [Inhabited α] {Q : α → Prop} {d : Array α} {X V Y : List α} (h : d.toList = X ++ (V ++ Y)) {m t : Nat} (hm : m = X.length) (ha : ∀ c, m + t ≤ c → c < m + V.length → Q d[c]!) : ∀ v ∈ V.drop t, Q v := by
  intro v hv
  obtain ⟨k, hk, rfl⟩ := List.getElem_of_mem hv
  have hk' : t + k < V.length := by rw [List.length_drop] at hk; omega
  have := ha (m + (t + k)) (by omega) (by omega)
  rw [get_at h hk' (by omega)] at this
  simpa using this
theorem mono1 [Inhabited α] {lt : α → α → Bool} (O : SWO lt) {d : Array α} {X V Y : List α} (h : d.toList = X ++ (V ++ Y)) (hV : Ord lt V) (x : α) {m b : Nat} (hm : m = X.length) (hb : b = m + V.length) : Mono (fun c => lt d[c]! x) m b := by
  intro c c' h1 h2 h3 h4
  cases e : lt d[c]! x with
  | true => exact e
  | false =>
    have := O.ntrans _ _ _ (ord_at O h hV (c := c) (c' := c') (by omega) h2 (by omega)) e
    simp only at h4
    rw [this] at h4; cases h4
theorem mono2 [Inhabited α] {lt : α → α → Bool} (O : SWO lt) {d : Array α} {X V Y : List α} (h : d.toList = X ++ (V ++ Y)) (hV : Ord lt V) (y : α) {m b : Nat} (hm : m = X.length) (hb : b = m + V.length) : Mono (fun c => !(lt y d[c]!)) m b := by
  intro c c' h1 h2 h3 h4
  simp only [Bool.not_eq_true'] at h4 ⊢
  exact O.ntrans _ _ _ h4 (ord_at O h hV (by omega) h2 (by omega))
/-- the two halves' ends and the middle -/
structure Halves (a m b lo hi mid : Nat) : Prop where
  h1 : a < m
  h2 : m < b
  hm : mid = (a + b) / 2
  hc : (mid < m ∧ lo = mid + m - b ∧ hi = mid) ∨ (m ≤ mid ∧ lo = a ∧ hi = m)
theorem Halves.get {a m b mid : Nat} (h1 : a < m) (h2 : m < b) (hm : mid = (a + b) / 2) : ∃ lo hi, Halves a m b lo hi mid := by
  by_cases h : mid < m
  · exact ⟨_, _, h1, h2, hm, Or.inl ⟨h, rfl, rfl⟩⟩
  · exact ⟨_, _, h1, h2, hm, Or.inr ⟨by omega, rfl, rfl⟩⟩
theorem Halves.bd {a m b lo hi mid : Nat} (H : Halves a m b lo hi mid) : a ≤ lo ∧ lo ≤ hi ∧ hi ≤ m ∧ hi ≤ mid ∧ mid < b ∧ a ≤ mid ∧ mid + m ≤ b + lo := by
  obtain ⟨h1, h2, hm, hc⟩ := H
  omega
theorem mono3 [Inhabited α] {lt : α → α → Bool} (O : SWO lt) {d : Array α} {X U V Y : List α} (h : d.toList = X ++ (U ++ (V ++ Y))) (hU : Ord lt U) (hV : Ord lt V) {a m b lo hi mid : Nat} (ha : a = X.length) (hm : m = a + U.length) (hb : b = m + V.length)
    (H : Halves a m b lo hi mid) : Mono (fun c => !(lt d[mid + m - 1 - c]! d[c]!)) lo hi := by
  intro c c' h1 h2 h3 h4
  obtain ⟨g1, g2, g3, g4, g5, g6, g7⟩ := H.bd
  simp only [Bool.not_eq_true'] at h4 ⊢
  have e1 := ord_at O (X := X) (L := U) (Y := V ++ Y) h hU (c := c) (c' := c') (by omega) h2 (by omega)
  have e2 := ord_at O (X := X ++ U) (L := V) (Y := Y) (by rw [h]; simp) hV (c := mid + m - 1 - c') (c' := mid + m - 1 - c) (by simp; omega) (by omega) (by simp; omega)
  exact O.ntrans _ _ _ e2 (O.ntrans _ _ _ h4 e1)
theorem cut_bd {a m b lo hi mid s : Nat} {p : Nat → Bool} (H : Halves a m b lo hi mid) (h : BS p lo hi s s) : a ≤ s ∧ s ≤ m ∧ s ≤ mid ∧ m ≤ mid + m - s ∧ mid + m - s ≤ b ∧ mid ≤ mid + m - s := by
  obtain ⟨g1, g2, g3, g4, g5, g6, g7⟩ := H.bd
  obtain ⟨b1, b2, b3, b4, b5⟩ := h
  omega
theorem cut_le [Inhabited α] {lt : α → α → Bool} (O : SWO lt) {d : Array α} {X U V Y : List α} (h : d.toList = X ++ (U ++ (V ++ Y))) (hU : Ord lt U) (hV : Ord lt V) {a m b lo hi mid s : Nat} (ha : a = X.length) (hm : m = a + U.length) (hb : b = m + V.length)
    (H : Halves a m b lo hi mid) (hs : BS (fun c => !(lt d[mid + m - 1 - c]! d[c]!)) lo hi s s) : LeA lt (U.take (s - a) ++ V.take (mid - s)) (U.drop (s - a) ++ V.drop (mid - s)) := by
  obtain ⟨g1, g2, g3, g4, g5, g6, g7⟩ := H.bd
  obtain ⟨k1, k2, k3, k4, k5, k6⟩ := cut_bd H hs
  obtain ⟨b1, b2, b3, b4, b5⟩ := hs
  have hU' : Ord lt (U.take (s - a) ++ U.drop (s - a)) := by rw [List.take_append_drop]; exact hU
  have hV' : Ord lt (V.take (mid - s) ++ V.drop (mid - s)) := by rw [List.take_append_drop]; exact hV
  obtain ⟨u1, u2, u3⟩ := Ord.app.1 hU'
  obtain ⟨v1, v2, v3⟩ := Ord.app.1 hV'
  have hV2 : d.toList = (X ++ U) ++ (V ++ Y) := by rw [h]; simp
  refine LeA.split u3 ?_ ?_ v3
  · by_cases e1 : s = a
    · have : U.take (s - a) = [] := by rw [e1]; simp
      rw [this]; exact LeA.nil_left _
    · by_cases e2 : mid + m - s = b
      · have : V.drop (mid - s) = [] := List.drop_eq_nil_of_le (by omega)
        rw [this]; exact LeA.nil_right _
      · have hlo : lo < s := by
          rcases H.hc with ⟨x1, x2, x3⟩ | ⟨x1, x2, x3⟩ <;> omega
        have hp := b4 (s - 1) (by omega) (by omega)
        simp only [Bool.not_eq_true'] at hp
        have q1 : s - 1 - a < U.length := by omega
        have q2 : mid - s < V.length := by omega
        rw [get_at h (c := s - 1) (k := s - 1 - a) q1 (by omega), get_at hV2 (c := mid + m - 1 - (s - 1)) (k := mid - s) q2 (by simp; omega)] at hp
        have f1 : U.take (s - a) = U.take (s - 1 - a) ++ [U[s - 1 - a]] := by have := take_snoc q1; rwa [show s - 1 - a + 1 = s - a by omega] at this
        have f2 : V.drop (mid - s) = V[mid - s] :: V.drop (mid - s + 1) := List.drop_eq_getElem_cons q2
        rw [f1] at u1 ⊢
        rw [f2] at v2 ⊢
        exact LeA.ends O u1 v2 hp
  · by_cases e1 : mid = s
    · have : V.take (mid - s) = [] := by rw [e1]; simp
      rw [this]; exact LeA.nil_left _
    · by_cases e2 : s = m
      · have : U.drop (s - a) = [] := List.drop_eq_nil_of_le (by omega)
        rw [this]; exact LeA.nil_right _
      · have hhi : s < hi := by
          rcases H.hc with ⟨x1, x2, x3⟩ | ⟨x1, x2, x3⟩ <;> omega
        have hp := b5 s (by omega) hhi
        simp only [Bool.not_eq_false'] at hp
        have q1 : s - a < U.length := by omega
        have q2 : mid - s - 1 < V.length := by omega
        rw [get_at h (c := s) (k := s - a) q1 (by omega), get_at hV2 (c := mid + m - 1 - s) (k := mid - s - 1) q2 (by simp; omega)] at hp
        have f1 : V.take (mid - s) = V.take (mid - s - 1) ++ [V[mid - s - 1]] := by have := take_snoc q2; rwa [show mid - s - 1 + 1 = mid - s by omega] at this
        have f2 : U.drop (s - a) = U[s - a] :: U.drop (s - a + 1) := List.drop_eq_getElem_cons q1
        rw [f1] at v1 ⊢
        rw [f2] at u2 ⊢
        exact LeA.ends O v1 u2 (swo_le O hp)

/-- one that goes up through those ahead of which it belongs not -/
theorem bub_up [Inhabited α] {d : Array α} {X V R : List α} {x : α} {t k : Nat} (h : d.toList = X ++ (V.take t ++ x :: (V.drop t ++ R))) (ht : t < V.length) (hk : k = X.length + t) : (swp d k (k + 1)).toList = X ++ (V.take (t + 1) ++ x :: (V.drop (t + 1) ++ R)) := by
  have h1 : d.toList = (X ++ V.take t) ++ x :: ([] ++ V[t] :: (V.drop (t + 1) ++ R)) := by
    rw [h, List.drop_eq_getElem_cons ht]
    simp only [List.append_assoc, List.cons_append, List.nil_append]
  rw [swp_split h1 (by simp; omega) (by simp; omega), take_snoc ht]
  simp only [List.append_assoc, List.cons_append, List.nil_append]
theorem bub_dn [Inhabited α] {d : Array α} {X U R : List α} {y : α} {t k : Nat} (h : d.toList = X ++ (U.take (t + 1) ++ y :: (U.drop (t + 1) ++ R))) (ht : t < U.length) (hk : k = X.length + t) : (swp d (k + 1) k).toList = X ++ (U.take t ++ y :: (U.drop t ++ R)) := by
  have h1 : d.toList = (X ++ U.take t) ++ U[t] :: ([] ++ y :: (U.drop (t + 1) ++ R)) := by
    rw [h, take_snoc ht]
    simp only [List.append_assoc, List.cons_append, List.nil_append]
  rw [swp_split' h1 (by simp; omega) (by simp; omega), List.drop_eq_getElem_cons ht]
  simp only [List.append_assoc, List.cons_append, List.nil_append]
end Go.Proofs.Ytoepodjpempcdaa
