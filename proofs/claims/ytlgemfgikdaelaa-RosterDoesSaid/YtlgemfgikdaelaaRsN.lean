/- Stage 25: who is picked: plain mathematics. -/
import Derived.Test.YtlgemfgikdaelaaRsM
namespace Go.Proofs.Ytlgemfgikdaelaa
open Go.RowKit

theorem inL_mem {l : List Int} {n : Int} : inL l n = true ↔ n ∈ l := by unfold inL; exact decide_eq_true_iff
theorem freeE_mem {L : List En} {x : Hd} : x ∈ freeE L ↔ ∃ e ∈ L, e.free = true ∧ e.hd = x := by
  unfold freeE
  simp only [List.mem_map, List.mem_filter, and_assoc]
theorem rs_uniq {L : List En} (h : L.Pairwise fun a b => a.id < b.id) {x y : En} (hx : x ∈ L) (hy : y ∈ L) (e : x.id = y.id) : x = y := by
  obtain ⟨i, hi, rfl⟩ := List.getElem_of_mem hx
  obtain ⟨j, hj, rfl⟩ := List.getElem_of_mem hy
  rcases Nat.lt_trichotomy i j with h1 | h1 | h1
  · have := rs_at h hi hj h1; omega
  · subst h1; rfl
  · have := rs_at h hj hi h1; omega
/-- one of the list is found by its ID -/
theorem hasE_mem {L : List En} (h : RsOk L) {x : En} (hx : x ∈ L) : hasE L x.id = true ∧ L.getD (befE L x.id) default = x := by
  have h1 : hasE L x.id = true := by
    unfold hasE
    rw [List.any_eq_true]
    exact ⟨x, hx, by simp⟩
  obtain ⟨hk, e, e2⟩ := h.at h1
  exact ⟨h1, by rw [e]; exact rs_uniq h.rise (List.getElem_mem hk) hx e2⟩
theorem busyE_free {L : List En} (h : RsOk L) {x : Hd} (hx : x ∈ freeE L) : busyE L x.id = false := by
  obtain ⟨e, he, hf, rfl⟩ := freeE_mem.1 hx
  obtain ⟨h1, h2⟩ := hasE_mem h he
  unfold busyE
  rw [h1, Bool.true_and]
  show (L.getD (befE L e.id) default).busy = false
  rw [h2]
  simp only [En.free, Bool.and_eq_true, Bool.not_eq_true'] at hf
  exact hf.2
theorem freeE_on {L : List En} {x : Hd} (hx : x ∈ freeE L) : x.on = true := by
  obtain ⟨e, _, hf, rfl⟩ := freeE_mem.1 hx
  simp only [En.free, Bool.and_eq_true] at hf
  exact hf.1
theorem freeE_rise {L : List En} (h : L.Pairwise fun a b => a.id < b.id) : (freeE L).Pairwise fun a b => a.id < b.id := by
  unfold freeE
  rw [List.pairwise_map]
  exact (h.filter _)
theorem pickH_none {H : List Hd} {need : Nat} {nt : List Int} {x : Int} (h : pickH H need nt = (x, false)) : x = 0 ∧ ∀ y ∈ H, mayH need nt y = false := by
  unfold pickH at h
  cases hf : H.find? (mayH need nt) with
  | some z => rw [hf] at h; simp at h
  | none =>
    rw [hf] at h
    simp only [Prod.mk.injEq, and_true] at h
    exact ⟨h.symm, fun y hy => by simpa using List.find?_eq_none.1 hf y hy⟩
theorem pickH_some {H : List Hd} {need : Nat} {nt : List Int} {x : Int} (hr : H.Pairwise fun a b => a.id < b.id) (h : pickH H need nt = (x, true)) : ∃ z ∈ H, z.id = x ∧ mayH need nt z = true ∧ ∀ y ∈ H, mayH need nt y = true → x ≤ y.id := by
  unfold pickH at h
  cases hf : H.find? (mayH need nt) with
  | none => rw [hf] at h; simp at h
  | some z =>
    rw [hf] at h
    simp only [Prod.mk.injEq, and_true] at h
    refine ⟨z, List.mem_of_find?_eq_some hf, h, List.find?_some hf, fun y hy hm => ?_⟩
    obtain ⟨_, front, back, e, hno⟩ := List.find?_eq_some_iff_append.1 hf
    subst e
    rcases List.mem_append.1 hy with h1 | h1
    · have := hno y h1
      rw [hm] at this
      cases this
    · rcases List.mem_cons.1 h1 with rfl | h1
      · omega
      · have := (List.pairwise_append.1 hr).2.1
        have := (List.pairwise_cons.1 this).1 y h1
        omega
/-- what is seen of each free hand -/
theorem pick_each {L : List En} (h : RsOk L) {need : Nat} {nt : List Int} {r : Int × Bool} (hr : pickE L need nt = r) {y : Hd} (hy : y ∈ freeE L) :
    (mayH need nt y = true → r.2 = true ∧ ¬ y.id < r.1) ∧ (r.2 = true → mayH need nt y = false → y.id ≠ r.1) := by
  obtain ⟨x, t⟩ := r
  unfold pickE at hr
  cases t with
  | false =>
    obtain ⟨_, hno⟩ := pickH_none hr
    refine ⟨fun hm => ?_, fun h5 => by cases h5⟩
    rw [hno y hy] at hm
    cases hm
  | true =>
    obtain ⟨z, hz, rfl, hm, hle⟩ := pickH_some (freeE_rise h.rise) hr
    refine ⟨fun h1 => ⟨rfl, ?_⟩, fun _ h1 e => ?_⟩
    · have := hle y hy h1
      show ¬ y.id < z.id
      omega
    · obtain ⟨a, ha, _, rfl⟩ := freeE_mem.1 hy
      obtain ⟨b, hb, _, rfl⟩ := freeE_mem.1 hz
      have := rs_uniq h.rise ha hb e
      subst this
      rw [hm] at h1
      cases h1
/-- who is picked: it can be taken, and given back -/
theorem filter_set_len (L : List En) (k : Nat) (hk : k < L.length) (y : En) (h1 : L[k].free = true) (h2 : y.free = false) : ((L.set k y).filter En.free).length + 1 = (L.filter En.free).length := by
  induction L generalizing k with
  | nil => simp at hk
  | cons x L ih =>
    cases k with
    | zero =>
      rw [List.getElem_cons_zero] at h1
      rw [List.set_cons_zero, List.filter_cons_of_neg (by simp [h2]), List.filter_cons_of_pos h1, List.length_cons]
    | succ k =>
      rw [List.getElem_cons_succ] at h1
      have := ih k (by simpa using hk) h1
      rw [List.set_cons_succ]
      cases hx : x.free with
      | true => rw [List.filter_cons_of_pos hx, List.filter_cons_of_pos hx, List.length_cons, List.length_cons, this]
      | false => rw [List.filter_cons_of_neg (by simp [hx]), List.filter_cons_of_neg (by simp [hx])]; exact this
theorem befE_set {L : List En} (k : Nat) (hk : k < L.length) (y : En) (hi : y.id = L[k].id) (n : Int) : befE (L.set k y) n = befE L n := by
  unfold befE
  have : ∀ l : List En, (l.countP fun x => decide (x.id < n)) = ((l.map En.id).countP fun i => decide (i < n)) := fun l => by rw [List.countP_map]; rfl
  rw [this, this, List.map_set, hi]
  congr 1
  refine List.ext_getElem (by simp) fun i h1 h2 => ?_
  rw [List.getElem_set]
  split
  · rename_i e
    subst e
    rw [List.getElem_map]
  · rfl
theorem hasE_set {L : List En} (k : Nat) (hk : k < L.length) (y : En) (hi : y.id = L[k].id) (n : Int) : hasE (L.set k y) n = hasE L n := by
  unfold hasE
  have : ∀ l : List En, (l.any fun x => decide (x.id = n)) = ((l.map En.id).any fun i => decide (i = n)) := fun l => by rw [List.any_map]; rfl
  rw [this, this, List.map_set, hi]
  congr 1
  refine List.ext_getElem (by simp) fun i h1 h2 => ?_
  rw [List.getElem_set]
  split
  · rename_i e
    subst e
    rw [List.getElem_map]
  · rfl
theorem pick_takes {L : List En} (h : RsOk L) {need : Nat} {nt : List Int} {x : Int} (hr : pickE L need nt = (x, true)) :
    ∃ L1, takeE L x = (L1, 0) ∧ busyE L1 x = true ∧ (freeE L1).length + 1 = (freeE L).length ∧ giveE L1 x = (L, true) := by
  obtain ⟨z, hz, rfl, -, -⟩ := pickH_some (freeE_rise h.rise) hr
  obtain ⟨e, he, hf, rfl⟩ := freeE_mem.1 hz
  show ∃ L1, takeE L e.id = (L1, 0) ∧ busyE L1 e.id = true ∧ (freeE L1).length + 1 = (freeE L).length ∧ giveE L1 e.id = (L, true)
  obtain ⟨h1, h2⟩ := hasE_mem h he
  obtain ⟨hk, h3, -⟩ := h.at h1
  rw [h2] at h3
  have hff := hf
  simp only [En.free, Bool.and_eq_true, Bool.not_eq_true'] at hff
  have hb : ∀ n, befE (L.set (befE L e.id) { e with busy := true }) n = befE L n := fun n => befE_set _ hk _ (by rw [← h3]) n
  have hh : ∀ n, hasE (L.set (befE L e.id) { e with busy := true }) n = hasE L n := fun n => hasE_set _ hk _ (by rw [← h3]) n
  have hget : (L.set (befE L e.id) { e with busy := true }).getD (befE L e.id) default = { e with busy := true } := by
    rw [List.getD_eq_getElem?_getD, List.getElem?_set_self hk]
    rfl
  have hbu : busyE (L.set (befE L e.id) { e with busy := true }) e.id = true := by
    unfold busyE
    rw [hh, hb, h1, hget]
    rfl
  refine ⟨L.set (befE L e.id) { e with busy := true }, ?_, hbu, ?_, ?_⟩
  · unfold takeE
    rw [if_pos h1, h2, if_pos hf]
  · unfold freeE
    rw [List.length_map, List.length_map]
    exact filter_set_len L _ hk _ (by rw [← h3]; exact hf) (by simp [En.free])
  · unfold giveE
    rw [if_pos hbu, hb, hget, List.set_set]
    have : ({ e with busy := false } : En) = e := by
      obtain ⟨a, b, c, d⟩ := e
      dsimp only at hff
      rw [hff.2]
    rw [show ({ ({ e with busy := true } : En) with busy := false } : En) = { e with busy := false } from rfl, this]
    have h5 := List.set_getElem_self hk
    rw [← h3] at h5
    rw [h5]
end Go.Proofs.Ytlgemfgikdaelaa
