/- Stage 22: what a task wants, as mathematics. -/
import Derived.Test.YtmkepmjdckdpgaaBun13
namespace Go.Proofs.Ytmkepmjdckdpgaa
open Go.RowKit

theorem want_len22 (r : Ru) (x : Sp) : (wantL r x).length ≤ r.ais.length := crs7_len _ _
theorem want_told (r : Ru) (x : Sp) {id : Int} (h : id ∈ wantL r x) : r.ais.any (fun a => a.id == id) = true := by
  obtain ⟨a, ha, _, e⟩ := (crs7_mem _ _ _).1 h
  rw [List.any_eq_true]
  exact ⟨a, ha, by simp [e]⟩
theorem want_rise (r : Ru) (x : Sp) (k p : Nat) (a b : Int) (h0 : p < k) (ha : (wantL r x)[p]? = some a) (hb : (wantL r x)[k]? = some b) : a < b := by
  have h := crs7_rise (hitB (rway (wd x.fx, wd x.fy) (wd x.tx, wd x.ty) 0)) r.ais
  change (wantL r x).Pairwise (· < ·) at h
  obtain ⟨h1, rfl⟩ := List.getElem?_eq_some_iff.1 ha
  obtain ⟨h2, rfl⟩ := List.getElem?_eq_some_iff.1 hb
  exact List.pairwise_iff_getElem.1 h p k h1 h2 h0
theorem num_pts {x : Sp} (h : numS x = true) : (wd x.fx = x.fx ∧ wd x.fy = x.fy) ∧ wd x.tx = x.tx ∧ wd x.ty = x.ty := by
  rw [numS_eq] at h
  simp only [Bool.and_eq_true, smallB, decide_eq_true_eq] at h
  obtain ⟨_, _, ⟨a1, a2, a3, a4⟩, a5, a6, a7, a8⟩ := h
  exact ⟨⟨wd_in ⟨a1, a2⟩, wd_in ⟨a3, a4⟩⟩, wd_in ⟨a5, a6⟩, wd_in ⟨a7, a8⟩⟩
theorem at_of {l : List Ais} {x y id : Int} (h : atL l x y = (id, true)) : ∃ a ∈ l, hasB a x y = true ∧ a.id = id := by
  unfold atL at h
  cases hf : l.find? (fun a => hasB a x y) with
  | none => rw [hf] at h; simp at h
  | some a =>
    rw [hf] at h
    simp at h
    exact ⟨a, List.mem_of_find?_eq_some hf, by simpa using List.find?_some hf, h⟩
theorem want_ends {r : Ru} {x : Sp} (h : numS x = true) {id : Int} {px py : Int} (hp : (px = x.fx ∧ py = x.fy) ∨ (px = x.tx ∧ py = x.ty)) (ha : atL r.ais px py = (id, true)) : id ∈ wantL r x := by
  obtain ⟨a, h1, h2, h3⟩ := at_of ha
  obtain ⟨⟨e1, e2⟩, e3, e4⟩ := num_pts h
  refine (crs7_mem _ _ _).2 ⟨a, h1, ?_, h3⟩
  unfold hitB
  rw [List.any_eq_true]
  rw [e1, e2, e3, e4]
  rcases hp with ⟨rfl, rfl⟩ | ⟨rfl, rfl⟩
  · exact ⟨(x.fx, x.fy), List.mem_map.2 ⟨0, by simp, rfl⟩, h2⟩
  · exact ⟨(x.tx, x.ty), List.mem_map.2 ⟨gap (x.fx, x.fy) (x.tx, x.ty), by simp, rit_end _ _ _⟩, h2⟩
theorem has_more {w s m : Nat} (h : hasK w s 64 = true) : hasK (w ||| m) s 64 = true := by
  rw [Nat.or_comm]
  exact hasK_trans (hasK_or m w) h
theorem any_next {α : Type} (l : List α) (p : α → Bool) (k : Nat) (hk : k < l.length) : (l.take (k + 1)).any p = ((l.take k).any p || p l[k]) := by
  rw [List.take_succ_eq_append_getElem hk, List.any_append]
  simp
theorem any_has {l : List Int} {n : Int} (h : n ∈ l) : l.any (fun m => m == n) = true := by
  rw [List.any_eq_true]
  exact ⟨n, h, by simp⟩
theorem rul_cases (r : Ru) : rul r = 2 ∨ rul r = 1 ∨ (rul r = 0 ∧ rightP r.ais = true) := by
  unfold rul
  cases numR r <;> cases hr : rightP r.ais <;> simp
theorem chk_num {x : Sp} : chk x = 2 ∨ chk x = 1 ∨ (chk x = 0 ∧ numS x = true) := by
  unfold chk
  cases hn : numS x <;> cases aftB x.id x.aft <;> simp
end Go.Proofs.Ytmkepmjdckdpgaa
