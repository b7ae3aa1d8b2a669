/- Stage 24's law DagSafe. -/
import Derived.Test.YthchkhgimnchcaaBun24
namespace Go.Proofs.Ythchkhgimnchcaa
open Go.RowKit

theorem sg_idsS {T : List Tk} {n s : Int} (h : sgT T n = s) (hs : s ≠ 0) : n ∈ idsK T := Classical.byContradiction fun e => by rw [sg_none e] at h; exact hs h.symm
/-- what has ended stays so -/
theorem end_keeps {T : List Tk} (h : Wf T) (id how : Int) : idsK (endDg T id how).1 = idsK T ∧ ∀ n, endS (sgT T n) = true → sgT (endDg T id how).1 n = sgT T n := by
  by_cases hid : id ∈ idsK T
  · by_cases hst : (how < 3 ∧ sgT T id ≠ 2) ∨ endS (sgT T id) = true
    · rw [endDg_st hid hst]
      exact ⟨rfl, fun _ _ => rfl⟩
    · have hne : endS (sgT T id) = false := by
        cases e : endS (sgT T id) with
        | false => rfl
        | true => exact absurd (.inr e) hst
      have hn0 : ∀ n, endS (sgT T n) = true → n ≠ id := fun n hn e => by rw [e, hne] at hn; cases hn
      by_cases h1 : how = 1
      · have e : endDg T id how = ((doneDg T id).1, (doneDg T id).2, 0) := by unfold endDg; rw [if_pos hid, if_neg hst, if_pos h1]
        rw [e]
        refine ⟨?_, fun n hn => ?_⟩
        · show idsK (setsT (setsT T [id] 4) _ 2) = _
          rw [setsT_ids, setsT_ids]
        · have h2 := sg_free (T1 := setsT T [id] 4) (by rw [setsT_ids]; exact h.nodup) n
          have h3 : n ∉ freedT (setsT T [id] 4) := fun hm => by
            have h4 := (freedT_mem (T := setsT T [id] 4) (by rw [setsT_ids]; exact h.nodup)).1 hm
            rw [sg_done hid, if_neg (hn0 n hn)] at h4
            rw [h4.2.1] at hn
            cases hn
          rw [if_neg h3, sg_done hid, if_neg (hn0 n hn)] at h2
          exact h2
      · by_cases h2 : how = 2
        · have e : endDg T id how = ((failDg T id).1, (failDg T id).2, 0) := by unfold endDg; rw [if_pos hid, if_neg hst, if_neg h1, if_pos h2]
          rw [e]
          refine ⟨?_, fun n hn => ?_⟩
          · show idsK (setsT (setsT T [id] 5) _ 6) = _
            rw [setsT_ids, setsT_ids]
          · show sgT (setsT (setsT T [id] 5) (goneT (setsT T [id] 5) (behindT T id)) 6) n = _
            have h5 := sg_fail hid (n := n)
            rw [if_neg (hn0 n hn)] at h5
            rw [sg_drop, if_neg (fun hc => by have := (live_iff.1 hc.2).2; rw [h5, hn] at this; cases this), h5]
        · have e : endDg T id how = ((cancDg T id).1, (cancDg T id).2, 0) := by unfold endDg; rw [if_pos hid, if_neg hst, if_neg h1, if_neg h2]
          rw [e]
          refine ⟨?_, fun n hn => ?_⟩
          · show idsK (setsT T _ 6) = _
            rw [setsT_ids]
          · show sgT (setsT T (goneT T (setL (id :: behindT T id))) 6) n = _
            rw [sg_drop, if_neg (fun hc => by have := (live_iff.1 hc.2).2; rw [hn] at this; cases this)]
  · rw [endDg_no hid]
    exact ⟨rfl, fun _ _ => rfl⟩
theorem act_keeps {T : List Tk} (h : Wf T) (room : Int) (x : Da) : (∀ n, n ∈ idsK T → n ∈ idsK (actDg room T x).1) ∧ ∀ n, endS (sgT T n) = true → sgT (actDg room T x).1 n = sgT T n := by
  unfold actDg
  split
  · exact ⟨fun n hn => by rw [(end_keeps h x.id 1).1]; exact hn, (end_keeps h x.id 1).2⟩
  split
  · exact ⟨fun n hn => by rw [(end_keeps h x.id 2).1]; exact hn, (end_keeps h x.id 2).2⟩
  split
  · exact ⟨fun n hn => by rw [(end_keeps h x.id 3).1]; exact hn, (end_keeps h x.id 3).2⟩
  unfold admDg
  split
  · rename_i hc
    have ho := bchk_iff.1 hc
    have hw := h.adm ho
    refine ⟨fun n hn => ids_adm.2 (.inl hn), fun n hn => ?_⟩
    have hnT : n ∈ idsK T := Classical.byContradiction fun e => by rw [sg_none e] at hn; cases hn
    obtain ⟨t, ht, rfl⟩ := idsK_mem.1 hnT
    show sgT (admT T (freeO T x.batch) x.batch) t.sp.id = _
    rw [sg_at hw.nodup (admT_mem.2 (.inl ht)), sg_at h.nodup ht]
  · exact ⟨fun n hn => hn, fun n _ => rfl⟩

set_option maxHeartbeats 1000000 in
set_option maxRecDepth 100000 in
theorem refEnded24_any (s : Int) (w : World) : Calls Try.prog 10 #[.int .i64 s] w fun e w' => e = .returned (.bool (endS s)) ∧ w = w' := by
  by_cases h4 : s = 4
  · subst h4
    go_enter Try.func10, Try.ntmps10
    go_wp2
    go_ret
    exact ⟨rfl, rfl⟩
  by_cases h5 : s = 5
  · subst h5
    go_enter Try.func10, Try.ntmps10
    go_wp2
    go_ret
    exact ⟨rfl, rfl⟩
  by_cases h6 : s = 6
  · subst h6
    go_enter Try.func10, Try.ntmps10
    go_wp2
    go_ret
    exact ⟨rfl, rfl⟩
  rw [endS_no.2 ⟨h4, h5, h6⟩]
  have e4 : (s == 4) = false := beq_noI h4
  have e5 : (s == 5) = false := beq_noI h5
  have e6 : (s == 6) = false := beq_noI h6
  clear h4 h5 h6
  go_enter Try.func10, Try.ntmps10
  go_wp2
  go_ret
  exact ⟨rfl, rfl⟩

/-! ### What the law keeps of each task -/
/-- the last statuses: of the first k the new ones, of the others the old ones -/
def wasG (T T' : List Tk) (k : Nat) : Int → Option Int := fun n => if n ∈ (idsK T').take k then some (sgT T' n) else if n ∈ idsK T then some (sgT T n) else none
theorem wasG_zero (T T' : List Tk) : wasG T T' 0 = fun n => if n ∈ idsK T then some (sgT T n) else none := by
  funext n
  unfold wasG
  rw [List.take_zero, if_neg (by simp)]
theorem wasG_end (T T' : List Tk) (h : ∀ n, n ∈ idsK T → n ∈ idsK T') (k : Nat) (hk : k = T'.length) : wasG T T' k = fun n => if n ∈ idsK T' then some (sgT T' n) else none := by
  have hl : (idsK T').length = T'.length := List.length_map _
  funext n
  unfold wasG
  rw [List.take_of_length_le (by omega)]
  by_cases h1 : n ∈ idsK T'
  · rw [if_pos h1, if_pos h1]
  · rw [if_neg h1, if_neg h1, if_neg fun e => h1 (h n e)]
theorem wasG_step (T T' : List Tk) (hn : (idsK T').Nodup) (k : Nat) (hk : k < T'.length) : wasG T T' (k + 1) = updG (wasG T T' k) T'[k].sp.id (some T'[k].st) := by
  have hl : (idsK T').length = T'.length := List.length_map _
  have hk2 : k < (idsK T').length := by omega
  have he : (idsK T')[k]'hk2 = T'[k].sp.id := by simp [idsK]
  funext n
  by_cases e : n = T'[k].sp.id
  · subst e
    rw [updG_same]
    unfold wasG
    rw [if_pos (by rw [List.take_succ_eq_append_getElem hk2, he]; exact List.mem_append.2 (.inr (List.mem_singleton.2 rfl))), sg_at hn (List.getElem_mem hk)]
  · rw [updG_other _ _ e]
    unfold wasG
    have : n ∈ (idsK T').take (k + 1) ↔ n ∈ (idsK T').take k := by
      rw [List.take_succ_eq_append_getElem hk2, he, List.mem_append, List.mem_singleton]
      exact ⟨fun h => h.resolve_right e, .inl⟩
    simp only [this]
/-- of those seen so far, how many have a status -/
def cntS (T : List Tk) (s : Int) (k : Nat) : Int := (((T.take k).filter fun t => decide (t.st = s)).length : Int)
theorem cntS_zero (T : List Tk) (s : Int) : cntS T s 0 = 0 := rfl
theorem cntS_step (T : List Tk) (s : Int) (k : Nat) (hk : k < T.length) : cntS T s (k + 1) = if T[k].st = s then cntS T s k + 1 else cntS T s k := by
  unfold cntS
  rw [List.take_succ_eq_append_getElem hk, List.filter_append]
  by_cases h : T[k].st = s
  · rw [if_pos h, List.filter_cons_of_pos (by simp [h])]
    simp
  · rw [if_neg h, List.filter_cons_of_neg (by simp [h])]
    simp
theorem cntS_bd (T : List Tk) (s : Int) (k : Nat) : 0 ≤ cntS T s k ∧ cntS T s k ≤ (k : Int) := by
  have h1 := List.length_filter_le (fun t : Tk => decide (t.st = s)) (T.take k)
  rw [List.length_take] at h1
  unfold cntS
  omega
theorem cntS_pos (T : List Tk) (s : Int) : 0 < cntS T s T.length ↔ ∃ t ∈ T, t.st = s := by
  unfold cntS
  rw [List.take_length]
  constructor
  · intro h
    have h1 : (T.filter fun t => decide (t.st = s)) ≠ [] := fun e => by rw [e] at h; simp at h
    obtain ⟨t, ht⟩ := List.exists_mem_of_ne_nil _ h1
    obtain ⟨h2, h3⟩ := List.mem_filter.1 ht
    exact ⟨t, h2, by simpa using h3⟩
  · rintro ⟨t, ht, e⟩
    have h1 : t ∈ T.filter fun t => decide (t.st = s) := List.mem_filter.2 ⟨ht, by simp [e]⟩
    have := List.length_pos_of_mem h1
    omega
theorem Wf.counts {T : List Tk} (h : Wf T) : ¬ (0 < cntS T 1 T.length ∧ cntS T 2 T.length = 0) := by
  rintro ⟨h1, h2⟩
  obtain ⟨t, ht, e⟩ := (cntS_pos T 1).1 h1
  obtain ⟨m, hm, h3⟩ := h.ready (idsK_mem.2 ⟨t, ht, rfl⟩) (by rw [sg_at h.nodup ht]; exact e)
  obtain ⟨u, hu, rfl⟩ := idsK_mem.1 hm
  rw [sg_at h.nodup hu] at h3
  have := (cntS_pos T 2).2 ⟨u, hu, h3⟩
  omega
/-- what a task's status and that of one it comes after may be -/
theorem Wf.pairs {T : List Tk} (h : Wf T) {t : Tk} (ht : t ∈ T) {a : Int} (ha : a ∈ t.sp.aft) : (sgT T a = 4 ∧ (t.st = 1 ∨ t.st = 2 ∨ t.st = 4 ∨ t.st = 5 ∨ t.st = 6)) ∨ (t.st = 1 ∧ (sgT T a = 1 ∨ sgT T a = 2)) ∨ (t.st = 6 ∧ (sgT T a = 1 ∨ sgT T a = 2 ∨ sgT T a = 5 ∨ sgT T a = 6)) := by
  have he : Ed T a t.sp.id := ⟨t, ht, rfl, ha⟩
  have hti : t.sp.id ∈ idsK T := idsK_mem.2 ⟨t, ht, rfl⟩
  have h1 := h.sts a (h.pre a _ he)
  have h2 := h.sts _ hti
  have h3 := h.over _ hti
  have h4 := h.drop a _ he
  rw [sg_at h.nodup ht] at h2 h3 h4
  by_cases h5 : sgT T a = 4
  · exact .inl ⟨h5, h2⟩
  · have h6 : ¬ (t.st = 2 ∨ t.st = 4 ∨ t.st = 5) := fun e => h5 (h3 e a he)
    omega
end Go.Proofs.Ythchkhgimnchcaa
