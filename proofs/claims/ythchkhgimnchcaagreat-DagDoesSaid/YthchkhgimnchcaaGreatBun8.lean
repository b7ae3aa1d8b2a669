/- Texts of this proof, joined: DgM; MapN; MapB; MapI. -/
import Derived.Test.YthchkhgimnchcaaGreatBun7
/- Stage 24: the store of tasks that come after one another, as mathematics: what it is, what is told, what each act makes of it. -/
namespace Go.Proofs.YthchkhgimnchcaaGreat
open Go.RowKit

/-! ### Reaching, as what is closed -/
theorem stepR_P {P : Int → Prop} {nodes out : List Int} {a : Arc16} (h : ∀ x ∈ out, P x) (ha : P a.src → a.dst ∈ nodes → P a.dst) : ∀ x ∈ stepR nodes out a, P x := by
  unfold stepR
  split
  · rename_i hc
    simp only [Bool.and_eq_true, Bool.not_eq_true'] at hc
    intro x hx
    rcases List.mem_append.1 hx with hx | hx
    · exact h x hx
    · rw [List.mem_singleton.1 hx]
      exact ha (h _ (inL_iff.1 hc.1.1)) (inL_iff.1 hc.1.2)
  · exact h
theorem rowR_P {P : Int → Prop} {nodes : List Int} : ∀ (arcs : List Arc16) (out : List Int), (∀ x ∈ out, P x) → (∀ a ∈ arcs, P a.src → a.dst ∈ nodes → P a.dst) → ∀ x ∈ rowR nodes arcs out, P x
  | [], _, h, _ => h
  | a :: t, _, h, ha => rowR_P t _ (stepR_P h (ha a List.mem_cons_self)) fun b hb => ha b (List.mem_cons_of_mem _ hb)
theorem itR_P {P : Int → Prop} {nodes : List Int} {arcs : List Arc16} : ∀ (n : Nat) (out : List Int), (∀ x ∈ out, P x) → (∀ a ∈ arcs, P a.src → a.dst ∈ nodes → P a.dst) → ∀ x ∈ itR nodes arcs n out, P x
  | 0, _, h, _ => h
  | n + 1, out, h, ha => by
    unfold itR
    exact rowR_P arcs _ (itR_P n out h ha) ha
theorem reach_ind {P : Int → Prop} {ids : List Int} {arcs : List Arc16} {frm : List Int} (h0 : ∀ x ∈ frm, x ∈ ids → P x) (ha : ∀ a ∈ arcs, P a.src → a.dst ∈ ids → P a.dst) : ∀ x ∈ reachL ids arcs frm, P x := by
  intro x hx
  refine itR_P (P := P) (setL ids).length (startR ids frm) (fun y hy => ?_) (fun a h1 h2 h3 => ha a h1 h2 ((setL_mem _ _).1 h3)) x ((setL_mem _ _).1 hx)
  obtain ⟨h1, h2⟩ := List.mem_filter.1 hy
  exact h0 y (inL_iff.1 h2) ((setL_mem _ _).1 h1)
theorem reach_sub {ids : List Int} {arcs : List Arc16} {frm : List Int} {x : Int} (h : x ∈ reachL ids arcs frm) : x ∈ ids :=
  (setL_mem _ _).1 ((itR_told (startR_told ids frm) _).sub x ((setL_mem _ _).1 h))
theorem reach_step {ids : List Int} {arcs : List Arc16} {frm : List Int} {a : Arc16} (ha : a ∈ arcs) (h1 : a.src ∈ reachL ids arcs frm) (h2 : a.dst ∈ ids) : a.dst ∈ reachL ids arcs frm :=
  (setL_mem _ _).2 (itR_closed (startR_told ids frm) a ha ((setL_mem _ _).1 h1) ((setL_mem _ _).2 h2))
theorem itR_keep {nodes : List Int} {arcs : List Arc16} : ∀ (n : Nat) (out : List Int) (x : Int), x ∈ out → x ∈ itR nodes arcs n out := by
  have h1 : ∀ (arcs : List Arc16) (out : List Int) (x : Int), x ∈ out → x ∈ rowR nodes arcs out := by
    intro arcs
    induction arcs with
    | nil => exact fun _ _ h => h
    | cons a t ih =>
      intro out x hx
      have e : rowR nodes (a :: t) out = rowR nodes t (stepR nodes out a) := rfl
      rw [e]
      refine ih _ _ ?_
      unfold stepR
      split
      · exact List.mem_append.2 (.inl hx)
      · exact hx
  intro n
  induction n with
  | zero => exact fun _ _ h => h
  | succ n ih =>
    intro out x hx
    unfold itR
    exact h1 arcs _ x (ih _ _ hx)
theorem reach_start {ids : List Int} {arcs : List Arc16} {frm : List Int} {x : Int} (h1 : x ∈ frm) (h2 : x ∈ ids) : x ∈ reachL ids arcs frm :=
  (setL_mem _ _).2 (itR_keep _ _ _ (List.mem_filter.2 ⟨(setL_mem _ _).2 h2, inL_iff.2 h1⟩))
theorem reach_ris (ids : List Int) (arcs : List Arc16) (frm : List Int) : risL (reachL ids arcs frm) := setL_ris _
theorem reach_congr {ids : List Int} {arcs : List Arc16} {f f' : List Int} (h : ∀ x, x ∈ f ↔ x ∈ f') : reachL ids arcs f = reachL ids arcs f' := by
  refine (reach_ris _ _ _).eq (reach_ris _ _ _) fun x => ⟨?_, ?_⟩
  · exact reach_ind (P := fun x => x ∈ reachL ids arcs f') (fun y h1 h2 => reach_start ((h y).1 h1) h2) (fun a h1 h2 h3 => reach_step h1 h2 h3) x
  · exact reach_ind (P := fun x => x ∈ reachL ids arcs f) (fun y h1 h2 => reach_start ((h y).2 h1) h2) (fun a h1 h2 h3 => reach_step h1 h2 h3) x
theorem risL.filter {l : List Int} (h : risL l) (p : Int → Bool) : risL (l.filter p) := List.Pairwise.filter _ h
theorem ms_ris {l : List Int} (h : l.Nodup) : risL (l.mergeSort fun x y => decide (x ≤ y)) := by
  have h1 := sorted_ms l
  have h2 : (l.mergeSort fun x y => decide (x ≤ y)).Nodup := (List.mergeSort_perm l _).nodup_iff.2 h
  unfold risL
  exact (h1.and h2).imp fun ⟨a, b⟩ => by omega
theorem ms_eq {l m : List Int} (h : l.Nodup) (hm : risL m) (he : ∀ x, x ∈ l ↔ x ∈ m) : (l.mergeSort fun x y => decide (x ≤ y)) = m :=
  (ms_ris h).eq hm fun x => by rw [List.mem_mergeSort]; exact he x

/-! ### Tasks of a store -/
/-- has a task ended -/
def endS (s : Int) : Bool := decide (s = 4) || decide (s = 5) || decide (s = 6)
theorem endS_iff {s : Int} : endS s = true ↔ s = 4 ∨ s = 5 ∨ s = 6 := by
  unfold endS
  simp only [Bool.or_eq_true, decide_eq_true_eq]
  omega
theorem endS_no {s : Int} : endS s = false ↔ s ≠ 4 ∧ s ≠ 5 ∧ s ≠ 6 := by
  rw [← Bool.not_eq_true, endS_iff]
  omega
def mkK (x : Sp) (s : Int) : Tk := ⟨x, s, 0, 0, 0, none, 0, []⟩
/-- the tasks, some with another status -/
def setsT (T : List Tk) (ids : List Int) (s : Int) : List Tk := T.map fun t => if inL ids t.sp.id then { t with st := s } else t
/-- the status of an ID; 0: there is none -/
def sgT (T : List Tk) (n : Int) : Int := (stO T n).getD 0
/-- a comes right ahead of x -/
def Ed (T : List Tk) (a x : Int) : Prop := ∃ t ∈ T, t.sp.id = x ∧ a ∈ t.sp.aft
def arcsT (T : List Tk) : List Arc16 := arcsO (T.map Tk.sp)
theorem arcsT_mem {T : List Tk} {a : Arc16} : a ∈ arcsT T ↔ Ed T a.src a.dst := by
  unfold arcsT Ed
  rw [arcsO_mem]
  constructor
  · rintro ⟨x, h1, h2, h3⟩
    obtain ⟨t, h4, rfl⟩ := List.mem_map.1 h1
    exact ⟨t, h4, h2.symm, h3⟩
  · rintro ⟨t, h1, h2, h3⟩
    exact ⟨t.sp, List.mem_map.2 ⟨t, h1, rfl⟩, h2.symm, h3⟩
theorem setsT_sp (T : List Tk) (ids : List Int) (s : Int) : (setsT T ids s).map Tk.sp = T.map Tk.sp := by
  unfold setsT
  rw [List.map_map]
  refine List.map_congr_left fun t _ => ?_
  simp only [Function.comp]
  split <;> rfl
theorem idsK_sp (T : List Tk) : idsK T = (T.map Tk.sp).map Sp.id := by unfold idsK; rw [List.map_map]; rfl
theorem setsT_ids (T : List Tk) (ids : List Int) (s : Int) : idsK (setsT T ids s) = idsK T := by rw [idsK_sp, setsT_sp, ← idsK_sp]
theorem setsT_arcs (T : List Tk) (ids : List Int) (s : Int) : arcsT (setsT T ids s) = arcsT T := by unfold arcsT; rw [setsT_sp]
theorem setsT_len (T : List Tk) (ids : List Int) (s : Int) : (setsT T ids s).length = T.length := List.length_map _
theorem Ed_sp {T T' : List Tk} (h : T'.map Tk.sp = T.map Tk.sp) {a x : Int} : Ed T' a x ↔ Ed T a x := by
  have e : arcsT T' = arcsT T := by unfold arcsT; rw [h]
  have h1 := arcsT_mem (T := T') (a := ⟨a, x⟩)
  have h2 := arcsT_mem (T := T) (a := ⟨a, x⟩)
  rw [e] at h1
  exact h1.symm.trans h2
theorem setsT_Ed {T : List Tk} {ids : List Int} {s a x : Int} : Ed (setsT T ids s) a x ↔ Ed T a x := Ed_sp (setsT_sp T ids s)
theorem setsT_nil (T : List Tk) (s : Int) : setsT T [] s = T := by
  unfold setsT
  have : ∀ t ∈ T, (fun t : Tk => if inL [] t.sp.id then { t with st := s } else t) t = id t := fun t _ => by simp [inL]
  rw [List.map_congr_left this, List.map_id]
theorem setsT_snoc (T : List Tk) (a : List Int) (x s : Int) : setsT (setsT T a s) [x] s = setsT T (a ++ [x]) s := by
  unfold setsT
  rw [List.map_map]
  refine List.map_congr_left fun t _ => ?_
  simp only [Function.comp]
  have hap : inL (a ++ [x]) t.sp.id = (inL a t.sp.id || inL [x] t.sp.id) := by
    rw [Bool.eq_iff_iff, Bool.or_eq_true, inL_iff, inL_iff, inL_iff, List.mem_append]
  rw [hap]
  obtain ⟨sp, st, q1, q2, q3, q4, q5, q6⟩ := t
  dsimp only
  cases h1 : inL a sp.id <;> cases h2 : inL [x] sp.id <;> simp [h2]
theorem stO_cons (t : Tk) (T : List Tk) (n : Int) : stO (t :: T) n = if t.sp.id = n then some t.st else stO T n := by
  unfold stO
  rw [List.find?_cons]
  by_cases h : t.sp.id = n
  · simp [h]
  · simp [h]
theorem stO_sets (T : List Tk) (ids : List Int) (s n : Int) : stO (setsT T ids s) n = if inL ids n then (stO T n).map fun _ => s else stO T n := by
  induction T with
  | nil => unfold setsT; simp [stO_nil]
  | cons t T ih =>
    have e : setsT (t :: T) ids s = (if inL ids t.sp.id then { t with st := s } else t) :: setsT T ids s := rfl
    rw [e, stO_cons, stO_cons, ih]
    by_cases h : t.sp.id = n
    · subst h
      split <;> simp
    · have h2 : ¬ (if inL ids t.sp.id then { t with st := s } else t).sp.id = n := by split <;> exact h
      rw [if_neg h2, if_neg h]
theorem stO_mem {T : List Tk} {n : Int} : (stO T n).isSome = true ↔ n ∈ idsK T := by rw [stO_some]; exact inL_iff
theorem stO_none {T : List Tk} {n : Int} (h : n ∉ idsK T) : stO T n = none := by
  cases e : stO T n with
  | none => rfl
  | some s => exact absurd (stO_mem.1 (by rw [e]; rfl)) h
theorem sg_none {T : List Tk} {n : Int} (h : n ∉ idsK T) : sgT T n = 0 := by unfold sgT; rw [stO_none h]; rfl
theorem sg_sets (T : List Tk) (ids : List Int) (s n : Int) : sgT (setsT T ids s) n = if n ∈ ids ∧ n ∈ idsK T then s else sgT T n := by
  unfold sgT
  rw [stO_sets]
  by_cases h1 : n ∈ ids
  · rw [if_pos (inL_iff.2 h1)]
    by_cases h2 : n ∈ idsK T
    · rw [if_pos ⟨h1, h2⟩]
      obtain ⟨v, hv⟩ := Option.isSome_iff_exists.1 (stO_mem.2 h2)
      rw [hv]
      rfl
    · rw [if_neg (fun h => h2 h.2), stO_none h2]
      rfl
  · rw [if_neg (fun h => h1 (inL_iff.1 h)), if_neg (fun h => h1 h.1)]
/-- rising IDs: a task's status is its ID's -/
theorem stO_at {T : List Tk} (h : (idsK T).Nodup) {t : Tk} (ht : t ∈ T) : stO T t.sp.id = some t.st := by
  induction T with
  | nil => cases ht
  | cons a T ih =>
    rw [stO_cons]
    have h2 : (a.sp.id :: idsK T).Nodup := h
    rw [List.nodup_cons] at h2
    rcases List.mem_cons.1 ht with rfl | ht
    · rw [if_pos rfl]
    · rw [if_neg (fun e => h2.1 (by rw [e]; exact List.mem_map.2 ⟨t, ht, rfl⟩))]
      exact ih h2.2 ht
theorem sg_at {T : List Tk} (h : (idsK T).Nodup) {t : Tk} (ht : t ∈ T) : sgT T t.sp.id = t.st := by unfold sgT; rw [stO_at h ht]; rfl
theorem idsK_mem {T : List Tk} {n : Int} : n ∈ idsK T ↔ ∃ t ∈ T, t.sp.id = n := List.mem_map
theorem setsT_mem {T : List Tk} {ids : List Int} {s : Int} {t : Tk} : t ∈ setsT T ids s ↔ ∃ u ∈ T, t = if inL ids u.sp.id then { u with st := s } else u := by
  unfold setsT
  rw [List.mem_map]
  exact ⟨fun ⟨u, h1, h2⟩ => ⟨u, h1, h2.symm⟩, fun ⟨u, h1, h2⟩ => ⟨u, h1, h2.symm⟩⟩

theorem overI_iff {T : List Tk} {n : Int} : overI T n = true ↔ sgT T n = 4 := by unfold overI sgT; exact decide_eq_true_iff
theorem overI_no {T : List Tk} {n : Int} : overI T n = false ↔ sgT T n ≠ 4 := by unfold overI sgT; exact decide_eq_false_iff_not
/-- after how many that are not over -/
def cntW (T : List Tk) (l : List Int) : Int := ((l.filter fun a => !overI T a).length : Int)
def waitsT (T : List Tk) (n : Int) : Int := match T.find? (fun t => decide (t.sp.id = n)) with | none => 0 | some t => cntW T t.sp.aft
theorem cntW_take (T : List Tk) (l : List Int) (k : Nat) (hk : k < l.length) : cntW T (l.take (k + 1)) = if overI T l[k] then cntW T (l.take k) else cntW T (l.take k) + 1 := by
  unfold cntW
  rw [List.take_succ_eq_append_getElem hk, List.filter_append]
  cases h : overI T l[k]
  · rw [List.filter_cons_of_pos (by simp [h])]
    simp
  · rw [List.filter_cons_of_neg (by simp [h])]
    simp
theorem cntW_nil (T : List Tk) : cntW T [] = 0 := rfl
theorem cntW_le (T : List Tk) (l : List Int) : 0 ≤ cntW T l ∧ cntW T l ≤ (l.length : Int) := by
  have := List.length_filter_le (fun a => !overI T a) l
  unfold cntW
  omega
theorem cntW_zero {T : List Tk} {l : List Int} : cntW T l = 0 ↔ ∀ a ∈ l, sgT T a = 4 := by
  unfold cntW
  constructor
  · intro h a ha
    have h1 : (l.filter fun a => !overI T a) = [] := List.eq_nil_of_length_eq_zero (by omega)
    have := List.filter_eq_nil_iff.1 h1 a ha
    simp only [Bool.not_eq_true', Bool.not_eq_false] at this
    exact overI_iff.1 this
  · intro h
    have : (l.filter fun a => !overI T a) = [] := List.filter_eq_nil_iff.2 fun a ha => by rw [overI_iff.2 (h a ha)]; simp
    rw [this]
    rfl
theorem find_at {T : List Tk} (h : (idsK T).Nodup) {t : Tk} (ht : t ∈ T) : T.find? (fun u => decide (u.sp.id = t.sp.id)) = some t := by
  induction T with
  | nil => cases ht
  | cons a T ih =>
    rw [List.find?_cons]
    have h2 : (a.sp.id :: idsK T).Nodup := h
    rw [List.nodup_cons] at h2
    rcases List.mem_cons.1 ht with rfl | ht
    · simp
    · have : ¬ a.sp.id = t.sp.id := fun e => h2.1 (by rw [e]; exact List.mem_map.2 ⟨t, ht, rfl⟩)
      simp only [this, decide_false]
      exact ih h2.2 ht
theorem waitsT_at {T : List Tk} (h : (idsK T).Nodup) {t : Tk} (ht : t ∈ T) : waitsT T t.sp.id = cntW T t.sp.aft := by unfold waitsT; rw [find_at h ht]
theorem waitsT_none {T : List Tk} {n : Int} (h : n ∉ idsK T) : waitsT T n = 0 := by
  unfold waitsT
  have : T.find? (fun t => decide (t.sp.id = n)) = none := List.find?_eq_none.2 fun t ht e => h (idsK_mem.2 ⟨t, ht, by simpa using e⟩)
  rw [this]
theorem waitsT_zero {T : List Tk} (h : (idsK T).Nodup) {n : Int} (hn : n ∈ idsK T) : waitsT T n = 0 ↔ ∀ a, Ed T a n → sgT T a = 4 := by
  obtain ⟨t, ht, rfl⟩ := idsK_mem.1 hn
  rw [waitsT_at h ht, cntW_zero]
  constructor
  · rintro h1 a ⟨u, hu, e, ha⟩
    have e2 := find_at h hu
    rw [e, find_at h ht] at e2
    injection e2 with e2
    subst e2
    exact h1 a ha
  · exact fun h1 a ha => h1 a ⟨t, ht, rfl, ha⟩
def freedT (T : List Tk) : List Int := idsK (T.filter fun t => decide (t.st = 1) && decide (waitsT T t.sp.id = 0))
theorem freedT_mem {T : List Tk} (h : (idsK T).Nodup) {n : Int} : n ∈ freedT T ↔ n ∈ idsK T ∧ sgT T n = 1 ∧ ∀ a, Ed T a n → sgT T a = 4 := by
  unfold freedT
  rw [idsK_mem]
  constructor
  · rintro ⟨t, h1, rfl⟩
    obtain ⟨h2, h3⟩ := List.mem_filter.1 h1
    simp only [Bool.and_eq_true, decide_eq_true_eq] at h3
    have hi : t.sp.id ∈ idsK T := idsK_mem.2 ⟨t, h2, rfl⟩
    exact ⟨hi, by rw [sg_at h h2]; exact h3.1, (waitsT_zero h hi).1 h3.2⟩
  · rintro ⟨h1, h2, h3⟩
    have h4 := (waitsT_zero h h1).2 h3
    obtain ⟨t, ht, rfl⟩ := idsK_mem.1 h1
    rw [sg_at h ht] at h2
    exact ⟨t, List.mem_filter.2 ⟨ht, by simp [h2, h4]⟩, rfl⟩
theorem freedT_ris {T : List Tk} (h : risL (idsK T)) : risL (freedT T) := by
  unfold freedT risL idsK
  have h1 : T.Pairwise fun a b => a.sp.id < b.sp.id := List.pairwise_map.1 h
  exact List.pairwise_map.2 (h1.filter _)
theorem freedT_len (T : List Tk) : (freedT T).length ≤ T.length := by
  unfold freedT idsK
  rw [List.length_map]
  exact List.length_filter_le _ _

/-- is there such a task that has not ended -/
def live (T : List Tk) (n : Int) : Bool := decide (n ∈ idsK T) && !endS (sgT T n)
theorem live_iff {T : List Tk} {n : Int} : live T n = true ↔ n ∈ idsK T ∧ endS (sgT T n) = false := by unfold live; simp
theorem live_no {T : List Tk} {n : Int} (hn : n ∈ idsK T) : live T n = false ↔ endS (sgT T n) = true := by unfold live; simp [hn]
def goneT (T : List Tk) (ids : List Int) : List Int := ids.filter (live T)
/-- the IDs of what comes right behind, as the document gathers them -/
def firstT (T : List Tk) (id : Int) : List Int := T.flatMap fun t => (t.sp.aft.filter fun n => decide (n = id)).map fun _ => t.sp.id
theorem firstT_mem {T : List Tk} {id x : Int} : x ∈ firstT T id ↔ Ed T id x := by
  unfold firstT Ed
  rw [List.mem_flatMap]
  constructor
  · rintro ⟨t, h1, h2⟩
    obtain ⟨n, h3, rfl⟩ := List.mem_map.1 h2
    obtain ⟨h4, h5⟩ := List.mem_filter.1 h3
    exact ⟨t, h1, rfl, by have := of_decide_eq_true h5; rwa [← this]⟩
  · rintro ⟨t, h1, rfl, h3⟩
    exact ⟨t, h1, List.mem_map.2 ⟨id, List.mem_filter.2 ⟨h3, by simp⟩, rfl⟩⟩
def behindT (T : List Tk) (id : Int) : List Int := reachL (idsK T) (arcsT T) (firstT T id)

/-! ### What each act makes of it -/
def doneDg (T : List Tk) (id : Int) : List Tk × List Int := (setsT (setsT T [id] 4) (freedT (setsT T [id] 4)) 2, freedT (setsT T [id] 4))
def dropDg (T : List Tk) (ids : List Int) : List Tk × List Int := (setsT T (goneT T ids) 6, goneT T ids)
def failDg (T : List Tk) (id : Int) : List Tk × List Int := dropDg (setsT T [id] 5) (behindT T id)
def cancDg (T : List Tk) (id : Int) : List Tk × List Int := dropDg T (setL (id :: behindT T id))

/-- what holds of a store -/
structure Wf (T : List Tk) : Prop where
  ris : risL (idsK T)
  chk : ∀ t ∈ T, chk t.sp = 0
  sts : ∀ n ∈ idsK T, sgT T n = 1 ∨ sgT T n = 2 ∨ sgT T n = 4 ∨ sgT T n = 5 ∨ sgT T n = 6
  pre : ∀ a x, Ed T a x → a ∈ idsK T
  wait : ∀ n ∈ idsK T, sgT T n = 1 → ∃ a, Ed T a n ∧ sgT T a ≠ 4
  over : ∀ n ∈ idsK T, sgT T n = 2 ∨ sgT T n = 4 ∨ sgT T n = 5 → ∀ a, Ed T a n → sgT T a = 4
  drop : ∀ a x, Ed T a x → sgT T a = 5 ∨ sgT T a = 6 → sgT T x = 6
  topo : ∃ rk : Int → Nat, ∀ a x, Ed T a x → rk a < rk x
section
variable {T : List Tk}
theorem Wf.nodup (h : Wf T) : (idsK T).Nodup := h.ris.nodup
theorem Ed_ids {a x : Int} (h : Ed T a x) : x ∈ idsK T := by
  obtain ⟨t, h1, h2, _⟩ := h
  exact idsK_mem.2 ⟨t, h1, h2⟩
theorem Wf.nil : Wf [] where
  ris := List.Pairwise.nil
  chk := fun t ht => by cases ht
  sts := fun n hn => by simp [idsK] at hn
  pre := fun a x ⟨t, ht, _⟩ => by cases ht
  wait := fun n hn => by simp [idsK] at hn
  over := fun n hn => by simp [idsK] at hn
  drop := fun a x ⟨t, ht, _⟩ => by cases ht
  topo := ⟨fun _ => 0, fun a x ⟨t, ht, _⟩ => by cases ht⟩
/-- other statuses -/
theorem Wf.restat (h : Wf T) {T' : List Tk} (hsp : T'.map Tk.sp = T.map Tk.sp)
    (sts : ∀ n ∈ idsK T, sgT T' n = 1 ∨ sgT T' n = 2 ∨ sgT T' n = 4 ∨ sgT T' n = 5 ∨ sgT T' n = 6)
    (wait : ∀ n ∈ idsK T, sgT T' n = 1 → ∃ a, Ed T a n ∧ sgT T' a ≠ 4)
    (over : ∀ n ∈ idsK T, sgT T' n = 2 ∨ sgT T' n = 4 ∨ sgT T' n = 5 → ∀ a, Ed T a n → sgT T' a = 4)
    (drop : ∀ a x, Ed T a x → sgT T' a = 5 ∨ sgT T' a = 6 → sgT T' x = 6) : Wf T' where
  ris := by rw [idsK_sp, hsp, ← idsK_sp]; exact h.ris
  chk := fun t ht => by
    have : t.sp ∈ T.map Tk.sp := by rw [← hsp]; exact List.mem_map.2 ⟨t, ht, rfl⟩
    obtain ⟨u, hu, e⟩ := List.mem_map.1 this
    rw [← e]
    exact h.chk u hu
  sts := fun n hn => sts n (by rwa [idsK_sp, hsp, ← idsK_sp] at hn)
  pre := fun a x he => by rw [idsK_sp, hsp, ← idsK_sp]; exact h.pre a x ((Ed_sp hsp).1 he)
  wait := fun n hn hs => by
    obtain ⟨a, h1, h2⟩ := wait n (by rwa [idsK_sp, hsp, ← idsK_sp] at hn) hs
    exact ⟨a, (Ed_sp hsp).2 h1, h2⟩
  over := fun n hn hs a ha => over n (by rwa [idsK_sp, hsp, ← idsK_sp] at hn) hs a ((Ed_sp hsp).1 ha)
  drop := fun a x he => drop a x ((Ed_sp hsp).1 he)
  topo := by
    obtain ⟨rk, hr⟩ := h.topo
    exact ⟨rk, fun a x he => hr a x ((Ed_sp hsp).1 he)⟩

/-! ### Done -/
theorem sg_done {id n : Int} (hid : id ∈ idsK T) : sgT (setsT T [id] 4) n = if n = id then 4 else sgT T n := by
  rw [sg_sets]
  by_cases e : n = id
  · subst e
    rw [if_pos ⟨List.mem_singleton.2 rfl, hid⟩, if_pos rfl]
  · rw [if_neg (fun h => e (List.mem_singleton.1 h.1)), if_neg e]
theorem sg_free {T1 : List Tk} (h : (idsK T1).Nodup) (n : Int) : sgT (setsT T1 (freedT T1) 2) n = if n ∈ freedT T1 then 2 else sgT T1 n := by
  rw [sg_sets]
  by_cases e : n ∈ freedT T1
  · rw [if_pos ⟨e, ((freedT_mem h).1 e).1⟩, if_pos e]
  · rw [if_neg (fun h => e h.1), if_neg e]
theorem Wf.done (h : Wf T) {id : Int} (h2 : sgT T id = 2) : Wf (doneDg T id).1 := by
  have hid : id ∈ idsK T := Classical.byContradiction fun e => by rw [sg_none e] at h2; omega
  have hn1 : (idsK (setsT T [id] 4)).Nodup := by rw [setsT_ids]; exact h.nodup
  have hf := sg_free hn1
  have hm := fun n => freedT_mem hn1 (n := n)
  have hd := fun n => sg_done hid (n := n)
  have hE : ∀ a n, Ed (setsT T [id] 4) a n ↔ Ed T a n := fun a n => setsT_Ed
  have hi := setsT_ids T [id] 4
  show Wf (setsT (setsT T [id] 4) (freedT (setsT T [id] 4)) 2)
  refine h.restat (by rw [setsT_sp, setsT_sp]) (fun n hn => ?_) (fun n hn hs => ?_) (fun n hn hs a ha => ?_) (fun a x he hs => ?_)
  · rw [hf, hd]
    split
    · omega
    · split
      · omega
      · exact h.sts n hn
  · rw [hf] at hs
    split at hs
    · omega
    rename_i hnf
    have hs1 := hs
    rw [hd] at hs
    split at hs
    · omega
    have h3 : ¬ ∀ a, Ed (setsT T [id] 4) a n → sgT (setsT T [id] 4) a = 4 := fun hall => hnf ((hm n).2 ⟨by rw [hi]; exact hn, hs1, hall⟩)
    rw [Classical.not_forall] at h3
    obtain ⟨a, h3⟩ := h3
    have h4 : Ed (setsT T [id] 4) a n := Classical.byContradiction fun e => h3 fun h5 => absurd h5 e
    refine ⟨a, (hE a n).1 h4, ?_⟩
    rw [hf]
    split
    · omega
    · exact fun e => h3 fun _ => e
  · have key : sgT (setsT T [id] 4) a = 4 → sgT (setsT (setsT T [id] 4) (freedT (setsT T [id] 4)) 2) a = 4 := fun h5 => by
      rw [hf]
      split
      · rename_i h6
        have := ((hm a).1 h6).2.1
        omega
      · exact h5
    refine key ?_
    rw [hf] at hs
    split at hs
    · rename_i h6
      exact ((hm n).1 h6).2.2 a ((hE a n).2 ha)
    · rw [hd] at hs ⊢
      split
      · rfl
      · split at hs
        · rename_i e
          subst e
          exact h.over n hn (.inl h2) a ha
        · exact h.over n hn hs a ha
  · rw [hf] at hs
    split at hs
    · omega
    rw [hd] at hs
    split at hs
    · omega
    have h6 := h.drop a x he hs
    rw [hf, hd]
    have hx : x ≠ id := fun e => by rw [e] at h6; omega
    rw [if_neg hx]
    split
    · rename_i h7
      have := ((hm x).1 h7).2.1
      rw [hd, if_neg hx] at this
      omega
    · exact h6
/-- of the tasks that come right behind it, those that are freed, as they come -/
def condT (T1 : List Tk) (n : Int) : Bool := decide (sgT T1 n = 1) && decide (waitsT T1 n = 0)
theorem done_list (h : Wf T) {id : Int} (h2 : sgT T id = 2) {nl : List Int} (hnl : ∀ x, x ∈ nl ↔ Ed T id x) (hnd : nl.Nodup) :
    ((nl.filter (condT (setsT T [id] 4))).mergeSort fun x y => decide (x ≤ y)) = freedT (setsT T [id] 4) := by
  have hid : id ∈ idsK T := Classical.byContradiction fun e => by rw [sg_none e] at h2; omega
  have hr1 : risL (idsK (setsT T [id] 4)) := by rw [setsT_ids]; exact h.ris
  have hn1 := hr1.nodup
  refine ms_eq (hnd.filter _) (freedT_ris hr1) fun x => ?_
  rw [List.mem_filter, freedT_mem hn1, setsT_ids]
  unfold condT
  simp only [Bool.and_eq_true, decide_eq_true_eq]
  constructor
  · rintro ⟨h3, h4, h5⟩
    have hx := Ed_ids ((hnl x).1 h3)
    exact ⟨hx, h4, (waitsT_zero hn1 (by rw [setsT_ids]; exact hx)).1 h5⟩
  · rintro ⟨h3, h4, h5⟩
    refine ⟨?_, h4, (waitsT_zero hn1 (by rw [setsT_ids]; exact h3)).2 h5⟩
    have h6 : sgT T x = 1 := by
      rw [sg_done hid] at h4
      split at h4
      · omega
      · exact h4
    obtain ⟨a, h7, h8⟩ := h.wait x h3 h6
    have h9 := h5 a (setsT_Ed.2 h7)
    rw [sg_done hid] at h9
    split at h9
    · rename_i e
      exact (hnl x).2 (e ▸ h7)
    · exact absurd h9 h8
/-- freeing some that are pending changes nothing for the others -/
theorem cond_sets {T1 : List Tk} (hn : (idsK T1).Nodup) {R : List Int} (hR : ∀ x ∈ R, sgT T1 x = 1) {n : Int} (hn1 : n ∉ R) (hn2 : n ∈ idsK T1) : condT (setsT T1 R 2) n = condT T1 n := by
  have h1 : ∀ a, sgT (setsT T1 R 2) a = 4 ↔ sgT T1 a = 4 := fun a => by
    rw [sg_sets]
    split
    · rename_i h
      have := hR a h.1
      omega
    · exact Iff.rfl
  have h2 : sgT (setsT T1 R 2) n = sgT T1 n := by rw [sg_sets, if_neg (fun h => hn1 h.1)]
  have h3 : waitsT (setsT T1 R 2) n = 0 ↔ waitsT T1 n = 0 := by
    rw [waitsT_zero (by rw [setsT_ids]; exact hn) (by rw [setsT_ids]; exact hn2), waitsT_zero hn hn2]
    exact ⟨fun h a ha => (h1 a).1 (h a (setsT_Ed.2 ha)), fun h a ha => (h1 a).2 (h a (setsT_Ed.1 ha))⟩
  unfold condT
  rw [h2, Bool.eq_iff_iff]
  simp only [Bool.and_eq_true, decide_eq_true_eq, h3]

/-! ### Dropping -/
/-- what a drop leaves to do -/
structure DrI (T1 : List Tk) (nx : Int → List Int) (I todo D : List Int) : Prop where
  nod : D.Nodup
  din : ∀ x ∈ D, x ∈ reachL (idsK T1) (arcsT T1) I ∧ live T1 x = true
  tin : ∀ x ∈ todo, x ∈ reachL (idsK T1) (arcsT T1) I
  st : ∀ x ∈ I, x ∈ D ∨ live T1 x = false ∨ x ∈ todo
  cl : ∀ d ∈ D, ∀ y ∈ nx d, y ∈ D ∨ live T1 y = false ∨ y ∈ todo
variable {T1 : List Tk} {nx : Int → List Int} {I todo D : List Int}
theorem DrI.start (h : ∀ x ∈ I, x ∈ idsK T1) : DrI T1 nx I I [] := ⟨List.nodup_nil, fun _ h => (by cases h), fun x hx => reach_start hx (h x hx), fun x hx => .inr (.inr hx), fun _ h => (by cases h)⟩
theorem DrI.skip {x : Int} {todo' : List Int} (h : DrI T1 nx I (x :: todo') D) (hx : x ∈ D ∨ live T1 x = false) : DrI T1 nx I todo' D := by
  have key : ∀ y, (y ∈ D ∨ live T1 y = false ∨ y ∈ x :: todo') → y ∈ D ∨ live T1 y = false ∨ y ∈ todo' := fun y hy => by
    rcases hy with hy | hy | hy
    · exact .inl hy
    · exact .inr (.inl hy)
    · rcases List.mem_cons.1 hy with rfl | hy
      · exact hx.imp id .inl
      · exact .inr (.inr hy)
  exact ⟨h.nod, h.din, fun y hy => h.tin y (List.mem_cons_of_mem _ hy), fun y hy => key y (h.st y hy), fun d hd y hy => key y (h.cl d hd y hy)⟩
theorem DrI.take {x : Int} {todo' : List Int} (h : DrI T1 nx I (x :: todo') D) (hnx : ∀ n x, x ∈ nx n ↔ Ed T1 n x) (h1 : x ∉ D) (h2 : live T1 x = true) : DrI T1 nx I (todo' ++ nx x) (D ++ [x]) := by
  have hx := h.tin x List.mem_cons_self
  have key : ∀ y, (y ∈ D ∨ live T1 y = false ∨ y ∈ x :: todo') → y ∈ D ++ [x] ∨ live T1 y = false ∨ y ∈ todo' ++ nx x := fun y hy => by
    rcases hy with hy | hy | hy
    · exact .inl (List.mem_append.2 (.inl hy))
    · exact .inr (.inl hy)
    · rcases List.mem_cons.1 hy with rfl | hy
      · exact .inl (List.mem_append.2 (.inr (List.mem_singleton.2 rfl)))
      · exact .inr (.inr (List.mem_append.2 (.inl hy)))
  refine ⟨List.nodup_append.2 ⟨h.nod, by simp, fun a ha b hb => by rw [List.mem_singleton.1 hb]; exact fun e => h1 (e ▸ ha)⟩, fun y hy => ?_, fun y hy => ?_, fun y hy => key y (h.st y hy), fun d hd y hy => ?_⟩
  · rcases List.mem_append.1 hy with hy | hy
    · exact h.din y hy
    · rw [List.mem_singleton.1 hy]
      exact ⟨hx, h2⟩
  · rcases List.mem_append.1 hy with hy | hy
    · exact h.tin y (List.mem_cons_of_mem _ hy)
    · have he := (hnx x y).1 hy
      exact reach_step (a := ⟨x, y⟩) (arcsT_mem.2 he) hx (Ed_ids he)
  · rcases List.mem_append.1 hd with hd | hd
    · exact key y (h.cl d hd y hy)
    · rw [List.mem_singleton.1 hd] at hy
      exact .inr (.inr (List.mem_append.2 (.inr hy)))
theorem DrI.done (h : DrI T1 nx I [] D) (hnx : ∀ n x, x ∈ nx n ↔ Ed T1 n x) (H : ∀ x y, x ∈ reachL (idsK T1) (arcsT T1) I → live T1 x = false → Ed T1 x y → y ∈ I ∨ live T1 y = false) :
    (D.mergeSort fun x y => decide (x ≤ y)) = goneT T1 (reachL (idsK T1) (arcsT T1) I) := by
  refine ms_eq h.nod ((reach_ris _ _ _).filter _) fun x => ⟨fun hx => List.mem_filter.2 (h.din x hx), fun hx => ?_⟩
  obtain ⟨h1, h2⟩ := List.mem_filter.1 hx
  have hI : ∀ y ∈ I, y ∈ D ∨ live T1 y = false := fun y hy => by
    rcases h.st y hy with h3 | h3 | h3
    · exact .inl h3
    · exact .inr h3
    · cases h3
  have key : ∀ y ∈ reachL (idsK T1) (arcsT T1) I, y ∈ reachL (idsK T1) (arcsT T1) I ∧ (y ∈ D ∨ live T1 y = false) := by
    refine reach_ind (fun y h3 h4 => ⟨reach_start h3 h4, hI y h3⟩) fun a ha h3 h4 => ⟨reach_step ha h3.1 h4, ?_⟩
    have he := arcsT_mem.1 ha
    rcases h3.2 with h5 | h5
    · rcases h.cl _ h5 _ ((hnx _ _).2 he) with h6 | h6 | h6
      · exact .inl h6
      · exact .inr h6
      · cases h6
    · rcases H _ _ h3.1 h5 he with h6 | h6
      · exact hI _ h6
      · exact .inr h6
  rcases (key x h1).2 with h3 | h3
  · exact h3
  · rw [h2] at h3
    cases h3
theorem DrI.bound (h : DrI T1 nx I todo D) : D.length ≤ T1.length := by
  have := len_of_sub D (idsK T1) h.nod fun x hx => reach_sub (h.din x hx).1
  unfold idsK at this
  rwa [List.length_map] at this
/-- in the midst of a drop: has x ended -/
theorem sets_ended {D : List Int} {x : Int} (hx : x ∈ idsK T1) : endS (sgT (setsT T1 D 6) x) = true ↔ x ∈ D ∨ live T1 x = false := by
  rw [sg_sets]
  by_cases e : x ∈ D
  · rw [if_pos ⟨e, hx⟩]
    exact ⟨fun _ => .inl e, fun _ => rfl⟩
  · rw [if_neg (fun h => e h.1)]
    rw [live_no hx]
    exact ⟨fun h => .inr h, fun h => h.resolve_left e⟩

/-- a drop of what is closed, behind whatever -/
theorem sg_drop {G : List Int} (n : Int) : sgT (setsT T1 (goneT T1 G) 6) n = if n ∈ G ∧ live T1 n = true then 6 else sgT T1 n := by
  rw [sg_sets]
  unfold goneT
  by_cases e : n ∈ G ∧ live T1 n = true
  · rw [if_pos e, if_pos ⟨List.mem_filter.2 e, (live_iff.1 e.2).1⟩]
  · rw [if_neg e, if_neg (fun h => e (List.mem_filter.1 h.1))]
theorem sg_fail {id n : Int} (hid : id ∈ idsK T) : sgT (setsT T [id] 5) n = if n = id then 5 else sgT T n := by
  rw [sg_sets]
  by_cases e : n = id
  · subst e
    rw [if_pos ⟨List.mem_singleton.2 rfl, hid⟩, if_pos rfl]
  · rw [if_neg (fun h => e (List.mem_singleton.1 h.1)), if_neg e]
theorem behind_step {id a x : Int} (h : a ∈ behindT T id ∨ a = id) (he : Ed T a x) : x ∈ behindT T id := by
  rcases h with h | rfl
  · exact reach_step (a := ⟨a, x⟩) (arcsT_mem.2 he) h (Ed_ids he)
  · exact reach_start (firstT_mem.2 he) (Ed_ids he)
theorem Wf.fail (h : Wf T) {id : Int} (h2 : sgT T id = 2) : Wf (failDg T id).1 := by
  have hid : id ∈ idsK T := Classical.byContradiction fun e => by rw [sg_none e] at h2; omega
  have hf := fun n => sg_fail hid (n := n)
  have hl : ∀ n, live (setsT T [id] 5) n = true ↔ n ≠ id ∧ live T n = true := fun n => by
    rw [live_iff, live_iff, setsT_ids, hf]
    by_cases e : n = id
    · subst e
      rw [if_pos rfl]
      exact ⟨fun h => by have := h.2; simp [endS] at this, fun h => absurd rfl h.1⟩
    · rw [if_neg e]
      exact ⟨fun h => ⟨e, h⟩, fun h => h.2⟩
  have hs : ∀ n, sgT (failDg T id).1 n = if n = id then 5 else if n ∈ behindT T id ∧ live T n = true then 6 else sgT T n := fun n => by
    show sgT (setsT (setsT T [id] 5) (goneT (setsT T [id] 5) (behindT T id)) 6) n = _
    rw [sg_drop, hf]
    by_cases e : n = id
    · subst e
      rw [if_neg (fun h => ((hl n).1 h.2).1 rfl), if_pos rfl, if_pos rfl]
    · by_cases e2 : n ∈ behindT T id ∧ live T n = true
      · rw [if_pos ⟨e2.1, (hl n).2 ⟨e, e2.2⟩⟩, if_neg e, if_pos e2]
      · rw [if_neg (fun h => e2 ⟨h.1, ((hl n).1 h.2).2⟩), if_neg e, if_neg e, if_neg e2]
  have h4 : ∀ a, sgT (failDg T id).1 a = 4 ↔ sgT T a = 4 := fun a => by
    rw [hs]
    split
    · rename_i e
      subst e
      omega
    · split
      · rename_i e
        have := endS_no.1 (live_iff.1 e.2).2
        omega
      · exact Iff.rfl
  refine h.restat (by show (setsT (setsT T [id] 5) _ 6).map Tk.sp = _; rw [setsT_sp, setsT_sp]) (fun n hn => ?_) (fun n hn hs1 => ?_) (fun n hn hs1 a ha => ?_) (fun a x he hs1 => ?_)
  · rw [hs]
    split
    · omega
    · split
      · omega
      · exact h.sts n hn
  · rw [hs] at hs1
    split at hs1
    · omega
    split at hs1
    · omega
    obtain ⟨a, h5, h6⟩ := h.wait n hn hs1
    exact ⟨a, h5, fun e => h6 ((h4 a).1 e)⟩
  · rw [h4]
    rw [hs] at hs1
    split at hs1
    · rename_i e
      subst e
      exact h.over n hn (.inl h2) a ha
    split at hs1
    · omega
    exact h.over n hn hs1 a ha
  · have hx : a ∈ behindT T id ∨ a = id → sgT (failDg T id).1 x = 6 := fun ho => by
      have hb := behind_step ho he
      have hxi : x ∈ idsK T := Ed_ids he
      rw [hs]
      have hna : sgT T a ≠ 4 := by
        rw [hs] at hs1
        split at hs1
        · rename_i e
          subst e
          omega
        · split at hs1
          · rename_i e
            have := endS_no.1 (live_iff.1 e.2).2
            omega
          · omega
      have hno : ¬ (sgT T x = 2 ∨ sgT T x = 4 ∨ sgT T x = 5) := fun hc => hna (h.over x hxi hc a he)
      have hne : x ≠ id := fun e => hno (.inl (e ▸ h2))
      rw [if_neg hne]
      by_cases hlx : live T x = true
      · rw [if_pos ⟨hb, hlx⟩]
      · rw [if_neg (fun h => hlx h.2)]
        have := endS_iff.1 ((live_no hxi).1 (by simpa using hlx))
        omega
    rw [hs] at hs1
    split at hs1
    · rename_i e
      exact hx (.inr e)
    · split at hs1
      · rename_i e
        exact hx (.inl e.1)
      · have h6 := h.drop a x he hs1
        rw [hs, if_neg (fun e => by rw [e] at h6; omega)]
        split
        · rfl
        · exact h6
theorem Wf.cancel (h : Wf T) {id : Int} : Wf (cancDg T id).1 := by
  have hm : ∀ n, n ∈ setL (id :: behindT T id) ↔ n ∈ behindT T id ∨ n = id := fun n => by rw [setL_mem, List.mem_cons]; exact or_comm
  have hs : ∀ n, sgT (cancDg T id).1 n = if n ∈ setL (id :: behindT T id) ∧ live T n = true then 6 else sgT T n := fun n => sg_drop n
  have h4 : ∀ a, sgT (cancDg T id).1 a = 4 ↔ sgT T a = 4 := fun a => by
    rw [hs]
    split
    · rename_i e
      have := endS_no.1 (live_iff.1 e.2).2
      omega
    · exact Iff.rfl
  refine h.restat (by show (setsT T _ 6).map Tk.sp = _; rw [setsT_sp]) (fun n hn => ?_) (fun n hn hs1 => ?_) (fun n hn hs1 a ha => ?_) (fun a x he hs1 => ?_)
  · rw [hs]
    split
    · omega
    · exact h.sts n hn
  · rw [hs] at hs1
    split at hs1
    · omega
    obtain ⟨a, h5, h6⟩ := h.wait n hn hs1
    exact ⟨a, h5, fun e => h6 ((h4 a).1 e)⟩
  · rw [h4]
    rw [hs] at hs1
    split at hs1
    · omega
    exact h.over n hn hs1 a ha
  · rw [hs] at hs1
    split at hs1
    · rename_i e
      have hb := behind_step ((hm a).1 e.1) he
      have hxi : x ∈ idsK T := Ed_ids he
      have hna : sgT T a ≠ 4 := (endS_no.1 (live_iff.1 e.2).2).1
      have hno : ¬ (sgT T x = 2 ∨ sgT T x = 4 ∨ sgT T x = 5) := fun hc => hna (h.over x hxi hc a he)
      rw [hs]
      by_cases hlx : live T x = true
      · rw [if_pos ⟨(hm x).2 (.inl hb), hlx⟩]
      · rw [if_neg (fun h => hlx h.2)]
        have := endS_iff.1 ((live_no hxi).1 (by simpa using hlx))
        omega
    · have h6 := h.drop a x he hs1
      rw [hs]
      split
      · rfl
      · exact h6
/-- behind what has ended ahead of a failing nothing is left to drop -/
theorem Wf.failH (h : Wf T) {id : Int} (h2 : sgT T id = 2) {I : List Int} (hI : ∀ x, x ∈ I ↔ Ed T id x) : ∀ x y, x ∈ reachL (idsK (setsT T [id] 5)) (arcsT (setsT T [id] 5)) I → live (setsT T [id] 5) x = false → Ed (setsT T [id] 5) x y → y ∈ I ∨ live (setsT T [id] 5) y = false := by
  have hid : id ∈ idsK T := Classical.byContradiction fun e => by rw [sg_none e] at h2; omega
  intro x y hx hl he
  rw [setsT_ids, setsT_arcs] at hx
  rw [setsT_Ed] at he
  have hxi := reach_sub hx
  have hyi := Ed_ids he
  rw [live_no (by rw [setsT_ids]; exact hxi), sg_fail hid] at hl
  rw [live_no (by rw [setsT_ids]; exact hyi), sg_fail hid]
  by_cases e : x = id
  · subst e
    exact .inl ((hI y).2 he)
  rw [if_neg e] at hl
  have h4 : sgT T x ≠ 4 := by
    refine reach_ind (P := fun x => sgT T x ≠ 4) (fun z hz hzi e4 => ?_) (fun a ha h5 h6 e4 => ?_) x hx
    · have := h.over z hzi (.inr (.inl e4)) id ((hI z).1 hz)
      omega
    · exact h5 (h.over _ h6 (.inr (.inl e4)) _ (arcsT_mem.1 ha))
  have h6 := h.drop x y he (by have := endS_iff.1 hl; omega)
  refine .inr ?_
  rw [if_neg (fun e => by rw [e] at h6; omega), h6]
  rfl
theorem Wf.cancH (h : Wf T) {id : Int} (h2 : endS (sgT T id) = false) : ∀ x y, x ∈ reachL (idsK T) (arcsT T) [id] → live T x = false → Ed T x y → y ∈ [id] ∨ live T y = false := by
  intro x y hx hl he
  have hxi := reach_sub hx
  have hyi := Ed_ids he
  rw [live_no hxi] at hl
  have h4 : sgT T x ≠ 4 := by
    refine reach_ind (P := fun x => sgT T x ≠ 4) (fun z hz hzi e4 => ?_) (fun a ha h5 h6 e4 => ?_) x hx
    · rw [List.mem_singleton.1 hz] at e4
      rw [e4] at h2
      cases h2
    · exact h5 (h.over _ h6 (.inr (.inl e4)) _ (arcsT_mem.1 ha))
  have h6 := h.drop x y he (by have := endS_iff.1 hl; omega)
  right
  rw [live_no hyi, h6]
  rfl
theorem fail_same {id : Int} {I : List Int} (hI : ∀ x, x ∈ I ↔ Ed T id x) : reachL (idsK (setsT T [id] 5)) (arcsT (setsT T [id] 5)) I = behindT T id := by
  rw [setsT_ids, setsT_arcs]
  exact reach_congr fun x => by rw [hI, firstT_mem]
theorem canc_same {id : Int} (hid : id ∈ idsK T) : reachL (idsK T) (arcsT T) [id] = setL (id :: behindT T id) := by
  refine (reach_ris _ _ _).eq (setL_ris _) fun x => ?_
  rw [setL_mem, List.mem_cons]
  constructor
  · intro hx
    refine reach_ind (P := fun x => x = id ∨ x ∈ behindT T id) (fun z hz _ => .inl (List.mem_singleton.1 hz)) (fun a ha h1 h2 => .inr (behind_step h1.symm (arcsT_mem.1 ha))) x hx
  · rintro (rfl | hx)
    · exact reach_start (List.mem_singleton.2 rfl) hid
    · refine reach_ind (P := fun x => x ∈ reachL (idsK T) (arcsT T) [id]) (fun z hz hzi => ?_) (fun a ha h1 h2 => reach_step ha h1 h2) x hx
      exact reach_step (a := ⟨id, z⟩) (arcsT_mem.2 (firstT_mem.1 hz)) (reach_start (List.mem_singleton.2 rfl) hid) hzi

/-! ### Something is ready, if something is pending -/
theorem Wf.ready (h : Wf T) {n : Int} (hn : n ∈ idsK T) (h1 : sgT T n = 1) : ∃ m ∈ idsK T, sgT T m = 2 := by
  obtain ⟨rk, hr⟩ := h.topo
  have key : ∀ k n, rk n ≤ k → n ∈ idsK T → sgT T n = 1 → ∃ m ∈ idsK T, sgT T m = 2 := by
    intro k
    induction k with
    | zero =>
      intro n hk hn h1
      obtain ⟨a, h2, _⟩ := h.wait n hn h1
      have := hr a n h2
      omega
    | succ k ih =>
      intro n hk hn h1
      obtain ⟨a, h2, h3⟩ := h.wait n hn h1
      have h4 := hr a n h2
      have h5 := h.pre a n h2
      rcases h.sts a h5 with h6 | h6 | h6 | h6 | h6
      · exact ih a (by omega) h5 h6
      · exact ⟨a, h5, h6⟩
      · exact absurd h6 h3
      · have := h.drop a n h2 (.inl h6)
        omega
      · have := h.drop a n h2 (.inr h6)
        omega
  exact key (rk n) n (Nat.le_refl _) hn h1
end
end Go.Proofs.YthchkhgimnchcaaGreat
/- Maps from ints to places (map[int]int): XMapG's laws in plain numbers. -/
namespace Go.Proofs.YthchkhgimnchcaaGreat
open Go.RowKit

noncomputable def EI : Elt Tryz.prog 3 := eltI Tryz.prog 3 Tryz.underlying3 fun w => by kernel_rfl
/-- places as ints -/
def gi (g : Int → Option Nat) : Int → Option Int := fun k => (g k).map fun n => (n : Int)
def upd (g : Int → Option Nat) (id : Int) (v : Option Nat) : Int → Option Nat := fun k => if k = id then v else g k
theorem gi_upd (g : Int → Option Nat) (id : Int) (j : Nat) : gi (upd g id (some j)) = updG (gi g) id (some (j : Int)) := by
  funext k
  unfold gi upd updG
  split <;> rfl
theorem gi_del (g : Int → Option Nat) (id : Int) : gi (upd g id none) = updG (gi g) id none := by
  funext k
  unfold gi upd updG
  split <;> rfl
/-- block b is a map of m entries: at each id the place that g tells -/
def MapN (w : World) (b m : Nat) (g : Int → Option Nat) : Prop := MapG EI 3 w b m (gi g)
theorem nat64 {n : Nat} (h : n ≤ 1000000) : I64 (n : Int) := by unfold I64; omega
section
variable {w w' : World} {b m : Nat} {g : Int → Option Nat}
theorem MapN.lt (h : MapN w b m g) : b < w.heap.size := MapG.lt h
theorem MapN.same (h : MapN w b m g) (he : w'.heap[b]? = w.heap[b]?) : MapN w' b m g := MapG.same h he
theorem MapN.kept (h : MapN w b m g) (hb : Below w.heap.size w w') : MapN w' b m g := MapG.kept h hb
theorem MapN.away (h : MapN w b m g) (a : Addr) (u : Value) (hne : b ≠ a.block) : MapN (w.setCell a u) b m g := MapG.away h a u hne
theorem MapN.grown {row : Option Nat} (h : MapN w b m g) (hg : w.grownBy w' row) (hne : some b ≠ row) : MapN w' b m g := MapG.grown h hg hne
theorem MapN.drew (h : MapN w b m g) : MapN w.drew b m g := MapG.same h rfl
theorem MapN.new (w : World) : MapN (w.alloc (.map #[] 0)) w.heap.size 0 (fun _ => none) := MapG.new w
theorem MapN.ne_cell {a : Addr} {u : Value} (h : MapN w b m g) (hk : w.cell? a = some u) : b ≠ a.block := MapG.ne_cell h hk
variable {ops : Array Oper} {rest : List Oper} {o : Oper} {a : Act} {Q : Exit → Act → World → Prop}
theorem gi_isSome (id : Int) : Option.isSome (α := EI.α) (gi g id) = (g id).isSome := by
  unfold gi
  cases g id <;> rfl
theorem gi_getD (id : Int) : EI.val (Option.getD (α := EI.α) (gi g id) EI.z) = .int .i64 (((g id).getD 0 : Nat) : Int) := by
  unfold gi
  cases g id <;> rfl
theorem wpList_lookN (hg : o.guard = none) (mo x : Operand) (hop : o.op = Op.lookup 91 mo x true)
    (hm : a.eval mo = .map (some b)) (h : MapN w b m g) (id : Int) (hi : I64 id) (hx : a.eval x = .int .i64 id)
    (hK : wpList Tryz.prog ops Q rest (a.put o.dst (.tuple #[.int .i64 (((g id).getD 0 : Nat) : Int), .bool (g id).isSome])) w) : wpList Tryz.prog ops Q (o :: rest) a w := by
  refine wpList_lookG2 (E := EI) hg mo x 91 hop Tryz.underlying3 Tryz.underlying91 hm h id hi hx ?_
  rw [gi_isSome, gi_getD]
  exact hK
theorem wpList_putN (hg : o.guard = none) (hd : o.dst = none) (mo x vo : Operand) (hop : o.op = Op.mapUpdate 91 mo x vo)
    (hm : a.eval mo = .map (some b)) (h : MapN w b m g) (hn : m ≤ 1000000) (id : Int) (hi : I64 id) (hx : a.eval x = .int .i64 id) (j : Nat) (hj : j ≤ 1000000) (hv : a.eval vo = .int .i64 (j : Int))
    (hK : ∀ w', MapN w' b (if (g id).isSome then m else m + 1) (upd g id (some j)) → w.grownBy w' (some b) → wpList Tryz.prog ops Q rest a w') : wpList Tryz.prog ops Q (o :: rest) a w := by
  refine wpList_putG (E := EI) hg mo x vo 91 hop Tryz.underlying3 Tryz.underlying91 hm h (by unfold maxLen; omega) id hi hx (show EI.α from (j : Int)) (nat64 hj) hv fun w' h1 h2 => by
    rw [hd]
    refine hK w' ?_ h2
    rw [gi_isSome] at h1
    unfold MapN
    rw [gi_upd]
    exact h1
theorem wpList_delN (hg : o.guard = none) (hd : o.dst = none) (mo x : Operand) (hop : o.op = Op.call { callee := Callee.builtin Builtin.delete, args := #[mo, x], argTypes := #[91, 3] })
    (hm : a.eval mo = .map (some b)) (h : MapN w b m g) (id : Int) (hi : I64 id) (hx : a.eval x = .int .i64 id)
    (hK : ∀ w', MapN w' b (if (g id).isSome then m - 1 else m) (upd g id none) → w.grownBy w' (some b) → wpList Tryz.prog ops Q rest a w') : wpList Tryz.prog ops Q (o :: rest) a w := by
  refine wpList_delG (E := EI) hg mo x 91 hop Tryz.underlying3 Tryz.underlying91 hm h id hi hx fun w' h1 h2 => by
    rw [hd]
    refine hK w' ?_ h2
    rw [gi_isSome] at h1
    unfold MapN
    rw [gi_del]
    exact h1
theorem wpList_lenN (hg : o.guard = none) (mo : Operand) (hop : o.op = Op.call { callee := Callee.builtin Builtin.len, args := #[mo], argTypes := #[91] })
    (hm : a.eval mo = .map (some b)) (h : MapN w b m g) (hK : wpList Tryz.prog ops Q rest (a.put o.dst (.int .i64 m)) w) : wpList Tryz.prog ops Q (o :: rest) a w :=
  wpList_lenG (E := EI) hg mo 91 hop Tryz.underlying91 hm h hK
theorem MapN.look (h : MapN w b m g) {id : Int} (hi : I64 id) : (Instr.lookup 91 (.map (some b)) (.int .i64 id) true).run Tryz.prog w = .ok (.tuple #[.int .i64 (((g id).getD 0 : Nat) : Int), .bool (g id).isSome]) w := by
  have := MapG.look h Tryz.underlying3 Tryz.underlying91 hi
  rwa [gi_isSome, gi_getD] at this
theorem MapN.look1 (h : MapN w b m g) {id : Int} (hi : I64 id) : (Instr.lookup 91 (.map (some b)) (.int .i64 id) false).run Tryz.prog w = .ok (.int .i64 (((g id).getD 0 : Nat) : Int)) w := by
  have := MapG.look1 h Tryz.underlying3 Tryz.underlying91 hi
  rwa [gi_getD] at this
end
end Go.Proofs.YthchkhgimnchcaaGreat
/- Maps from ints to bools (map[int]bool): XMapG's laws in plain words. FOR ALL LATER STAGES (without XMapI's map[int]int). -/
namespace Go.Proofs.YthchkhgimnchcaaGreat
open Go.RowKit Go.Maps

/-- what a store does, as an equation of its run -/
theorem MapG.stored {P : Program} {kt e : TypeId} {E : Elt P e} {w : World} {b m : Nat} {g : Int → Option E.α} (h : MapG E kt w b m g) (hk : P.underlying kt = some (.int .i64)) {t : TypeId} (ht : P.underlying t = some (.map kt e)) (hn : m < maxLen) {id : Int} (hi : I64 id) (y : E.α) (hy : E.ok y) :
    ∃ w', (Instr.mapUpdate t (.map (some b)) (.int .i64 id) (E.val y)).run P w = .ok () w' ∧ MapG E kt w' b (if (g id).isSome then m else m + 1) (updG g id (some y)) ∧ w.grownBy w' (some b) := by
  obtain ⟨D, h1, h2, h3⟩ := h
  obtain ⟨w', hrun, h4, h5⟩ := h1.store (int_keyed hk) ht hn (keyOf_int_mk hk hi.wf) (E.out y hy)
  have htidy := h1.tidy (int_keyed hk)
  have hsz := Maps.size_put (k := Lit.int .i64 id) htidy (E.enc y)
  have hh : Maps.has D (.int .i64 id) = (g id).isSome := by
    have := h3 id hi
    cases hgi : g id with
    | none => rw [hgi] at this; exact this
    | some y => rw [hgi] at this; exact this.1
  rw [hh, h2] at hsz
  refine ⟨w', hrun, ⟨D.put (.int .i64 id) (E.enc y), ?_, hsz, fun k hkk => ?_⟩, h5.grown⟩
  · obtain ⟨es, clock, r1, r2, r3, r4⟩ := h4
    refine ⟨es, clock, r1, r2, ?_, r4⟩
    rw [← hsz, r4]
    simp [Maps.size, length_sorted]
  · by_cases ek : k = id
    · subst ek
      rw [updG_same]
      exact ⟨Maps.has_put_same (k := Lit.int .i64 k) htidy.isMap trivial _, fun z => Maps.atKey_put_same (k := Lit.int .i64 k) htidy.isMap trivial _ z⟩
    · rw [updG_other _ _ ek]
      have := h3 k hkk
      cases hgk : g k with
      | none =>
        rw [hgk] at this
        show Maps.has _ _ = false
        rw [Maps.has_put_other (kl_ne ek)]
        exact this
      | some y2 =>
        rw [hgk] at this
        refine ⟨?_, fun z => ?_⟩
        · rw [Maps.has_put_other (kl_ne ek)]; exact this.1
        · rw [Maps.atKey_put_other (kl_ne ek)]; exact this.2 z

def readB : Value → Option (DataW Unit × List MemPlace)
  | .bool b => some (.lit (.bool b), [])
  | _ => none
noncomputable def EB : Elt Tryz.prog 4 where
  α := Bool
  val := fun x => .bool x
  enc := fun x => .lit (.bool x)
  ok := fun _ => True
  z := false
  R := readB
  out := fun _ _ => rfl
  inv := fun v x ps h => by
    unfold readB at h
    split at h
    · simp only [Option.some.injEq, Prod.mk.injEq, DataW.lit.injEq, Lit.bool.injEq] at h
      rw [h.1]
    · cases h
  okz := trivial
  hz := fun w => by kernel_rfl
def MapB (w : World) (b m : Nat) (g : Int → Option Bool) : Prop := MapG EB 3 w b m g
section
variable {w w' : World} {b m : Nat} {g : Int → Option Bool}
theorem MapB.lt (h : MapB w b m g) : b < w.heap.size := MapG.lt h
theorem MapB.same (h : MapB w b m g) (he : w'.heap[b]? = w.heap[b]?) : MapB w' b m g := MapG.same h he
theorem MapB.kept (h : MapB w b m g) (hb : Below w.heap.size w w') : MapB w' b m g := MapG.kept h hb
theorem MapB.away (h : MapB w b m g) (a : Addr) (u : Value) (hne : b ≠ a.block) : MapB (w.setCell a u) b m g := MapG.away h a u hne
theorem MapB.new (w : World) : MapB (w.alloc (.map #[] 0)) w.heap.size 0 (fun _ => none) := MapG.new w
theorem MapB.ne_cell {a : Addr} {u : Value} (h : MapB w b m g) (hk : w.cell? a = some u) : b ≠ a.block := MapG.ne_cell h hk
variable {ops : Array Oper} {rest : List Oper} {o : Oper} {a : Act} {Q : Exit → Act → World → Prop}
end
end Go.Proofs.YthchkhgimnchcaaGreat
/- Maps from ints to ints, to bools, to lists of numbers (their headers alone): XMapG's laws in plain words. FOR ALL LATER STAGES. -/
namespace Go.Proofs.YthchkhgimnchcaaGreat
open Go.RowKit Go.Maps

/-- what a store does, as an equation of its run -/
theorem MapG.store {P : Program} {kt e : TypeId} {E : Elt P e} {w : World} {b m : Nat} {g : Int → Option E.α} (h : MapG E kt w b m g) (hk : P.underlying kt = some (.int .i64)) {t : TypeId} (ht : P.underlying t = some (.map kt e)) (hn : m < maxLen) {id : Int} (hi : I64 id) (y : E.α) (hy : E.ok y) :
    ∃ w', (Instr.mapUpdate t (.map (some b)) (.int .i64 id) (E.val y)).run P w = .ok () w' ∧ MapG E kt w' b (if (g id).isSome then m else m + 1) (updG g id (some y)) ∧ w.grownBy w' (some b) := by
  obtain ⟨D, h1, h2, h3⟩ := h
  obtain ⟨w', hrun, h4, h5⟩ := h1.store (int_keyed hk) ht hn (keyOf_int_mk hk hi.wf) (E.out y hy)
  have htidy := h1.tidy (int_keyed hk)
  have hsz := Maps.size_put (k := Lit.int .i64 id) htidy (E.enc y)
  have hh : Maps.has D (.int .i64 id) = (g id).isSome := by
    have := h3 id hi
    cases hgi : g id with
    | none => rw [hgi] at this; exact this
    | some y => rw [hgi] at this; exact this.1
  rw [hh, h2] at hsz
  refine ⟨w', hrun, ⟨D.put (.int .i64 id) (E.enc y), ?_, hsz, fun k hkk => ?_⟩, h5.grown⟩
  · obtain ⟨es, clock, r1, r2, r3, r4⟩ := h4
    refine ⟨es, clock, r1, r2, ?_, r4⟩
    rw [← hsz, r4]
    simp [Maps.size, length_sorted]
  · by_cases ek : k = id
    · subst ek
      rw [updG_same]
      exact ⟨Maps.has_put_same (k := Lit.int .i64 k) htidy.isMap trivial _, fun z => Maps.atKey_put_same (k := Lit.int .i64 k) htidy.isMap trivial _ z⟩
    · rw [updG_other _ _ ek]
      have := h3 k hkk
      cases hgk : g k with
      | none =>
        rw [hgk] at this
        show Maps.has _ _ = false
        rw [Maps.has_put_other (kl_ne ek)]
        exact this
      | some y2 =>
        rw [hgk] at this
        refine ⟨?_, fun z => ?_⟩
        · rw [Maps.has_put_other (kl_ne ek)]; exact this.1
        · rw [Maps.atKey_put_other (kl_ne ek)]; exact this.2 z

/-! ### Ints -/
def MapI (w : World) (b m : Nat) (g : Int → Option Int) : Prop := MapG EI 3 w b m g
section
variable {w w' : World} {b m : Nat} {g : Int → Option Int}
theorem MapI.lt (h : MapI w b m g) : b < w.heap.size := MapG.lt h
theorem MapI.same (h : MapI w b m g) (he : w'.heap[b]? = w.heap[b]?) : MapI w' b m g := MapG.same h he
theorem MapI.kept (h : MapI w b m g) (hb : Below w.heap.size w w') : MapI w' b m g := MapG.kept h hb
theorem MapI.new (w : World) : MapI (w.alloc (.map #[] 0)) w.heap.size 0 (fun _ => none) := MapG.new w
theorem MapI.ne_cell {a : Addr} {u : Value} (h : MapI w b m g) (hk : w.cell? a = some u) : b ≠ a.block := MapG.ne_cell h hk
theorem MapI.look (h : MapI w b m g) {id : Int} (hi : I64 id) : (Instr.lookup 91 (.map (some b)) (.int .i64 id) true).run Tryz.prog w = .ok (.tuple #[.int .i64 ((g id).getD 0), .bool (g id).isSome]) w :=
  MapG.look (E := EI) h Tryz.underlying3 Tryz.underlying91 hi
theorem MapI.look1 (h : MapI w b m g) {id : Int} (hi : I64 id) : (Instr.lookup 91 (.map (some b)) (.int .i64 id) false).run Tryz.prog w = .ok (.int .i64 ((g id).getD 0)) w :=
  MapG.look1 (E := EI) h Tryz.underlying3 Tryz.underlying91 hi
theorem MapI.put (h : MapI w b m g) (hn : m ≤ 1000000) {id : Int} (hi : I64 id) (y : Int) (hy : I64 y) :
    ∃ w', (Instr.mapUpdate 91 (.map (some b)) (.int .i64 id) (.int .i64 y)).run Tryz.prog w = .ok () w' ∧ MapI w' b (if (g id).isSome then m else m + 1) (updG g id (some y)) ∧ w.grownBy w' (some b) :=
  MapG.store (E := EI) h Tryz.underlying3 Tryz.underlying91 (by unfold maxLen; omega) hi y hy
variable {ops : Array Oper} {rest : List Oper} {o : Oper} {a : Act} {Q : Exit → Act → World → Prop}
theorem wpList_putI (hg : o.guard = none) (hd : o.dst = none) (mo x vo : Operand) (hop : o.op = Op.mapUpdate 91 mo x vo)
    (hm : a.eval mo = .map (some b)) (h : MapI w b m g) (hn : m ≤ 1000000) (id : Int) (hi : I64 id) (hx : a.eval x = .int .i64 id) (y : Int) (hy : I64 y) (hv : a.eval vo = .int .i64 y)
    (hK : ∀ w', MapI w' b (if (g id).isSome then m else m + 1) (updG g id (some y)) → w.grownBy w' (some b) → wpList Tryz.prog ops Q rest a w') : wpList Tryz.prog ops Q (o :: rest) a w := by
  refine wpList_putG (E := EI) hg mo x vo 91 hop Tryz.underlying3 Tryz.underlying91 hm h (by unfold maxLen; omega) id hi hx (show EI.α from y) hy hv fun w' h1 h2 => by
    rw [hd]
    exact hK w' h1 h2
end

/-! ### Bools -/

/-! ### Lists of numbers -/
/-- a list's header -/
structure Hd where
  g : Option Nat
  n : Nat
  c : Nat
def hdv (x : Hd) : Value := .slice (x.g.map fun b => ⟨b, 0, none⟩) x.n x.c
def hd0 : Hd := ⟨none, 0, 0⟩
def encH (x : Hd) : DataW Unit := .agg [.lit (.int .i64 (match x.g with | none => -1 | some b => (b : Int))), .lit (.int .i64 (x.n : Int)), .lit (.int .i64 (x.c : Int))]
def readH : Value → Option (DataW Unit × List MemPlace)
  | .slice none n c => some (encH ⟨none, n, c⟩, [])
  | .slice (some ⟨b, 0, none⟩) n c => some (encH ⟨some b, n, c⟩, [])
  | _ => none
theorem encH_inj {x y : Hd} (h : encH x = encH y) : x = y := by
  obtain ⟨a, n, c⟩ := x
  obtain ⟨a', n', c'⟩ := y
  simp only [encH, DataW.agg.injEq, List.cons.injEq, DataW.lit.injEq, Lit.int.injEq, true_and, and_true] at h
  obtain ⟨h1, h2, h3⟩ := h
  have e2 : n = n' := by omega
  have e3 : c = c' := by omega
  subst e2 e3
  cases a <;> cases a' <;> simp only at h1
  · rfl
  · omega
  · omega
  · have : (_ : Nat) = _ := Int.ofNat.inj h1
    rw [this]
theorem readH_inv (v : Value) (x : Hd) (ps : List MemPlace) (h : readH v = some (encH x, ps)) : v = hdv x := by
  unfold readH at h
  split at h
  · simp only [Option.some.injEq, Prod.mk.injEq] at h
    rw [← encH_inj h.1]
    rfl
  · simp only [Option.some.injEq, Prod.mk.injEq] at h
    rw [← encH_inj h.1]
    rfl
  · cases h
noncomputable def EH : Elt Tryz.prog 32 where
  α := Hd
  val := hdv
  enc := encH
  ok := fun _ => True
  z := hd0
  R := readH
  out := fun x _ => by
    obtain ⟨a, n, c⟩ := x
    cases a <;> rfl
  inv := readH_inv
  okz := trivial
  hz := fun w => by kernel_rfl
def MapH (w : World) (b m : Nat) (g : Int → Option Hd) : Prop := MapG EH 3 w b m g
/-- the list at a key -/
def hat (g : Int → Option Hd) (n : Int) : Value := hdv ((g n).getD hd0)
section
variable {w w' : World} {b m : Nat} {g : Int → Option Hd}
theorem MapH.lt (h : MapH w b m g) : b < w.heap.size := MapG.lt h
theorem MapH.same (h : MapH w b m g) (he : w'.heap[b]? = w.heap[b]?) : MapH w' b m g := MapG.same h he
theorem MapH.kept (h : MapH w b m g) (hb : Below w.heap.size w w') : MapH w' b m g := MapG.kept h hb
theorem MapH.new (w : World) : MapH (w.alloc (.map #[] 0)) w.heap.size 0 (fun _ => none) := MapG.new w
theorem MapH.ne_cell {a : Addr} {u : Value} (h : MapH w b m g) (hk : w.cell? a = some u) : b ≠ a.block := MapG.ne_cell h hk
theorem MapH.look1 (h : MapH w b m g) {id : Int} (hi : I64 id) : (Instr.lookup 131 (.map (some b)) (.int .i64 id) false).run Tryz.prog w = .ok (hat g id) w :=
  MapG.look1 (E := EH) h Tryz.underlying3 Tryz.underlying131 hi
variable {ops : Array Oper} {rest : List Oper} {o : Oper} {a : Act} {Q : Exit → Act → World → Prop}
theorem wpList_putH (hg : o.guard = none) (hd : o.dst = none) (mo x vo : Operand) (hop : o.op = Op.mapUpdate 131 mo x vo)
    (hm : a.eval mo = .map (some b)) (h : MapH w b m g) (hn : m ≤ 1000000) (id : Int) (hi : I64 id) (hx : a.eval x = .int .i64 id) (y : Hd) (hv : a.eval vo = hdv y)
    (hK : ∀ w', MapH w' b (if (g id).isSome then m else m + 1) (updG g id (some y)) → w.grownBy w' (some b) → wpList Tryz.prog ops Q rest a w') : wpList Tryz.prog ops Q (o :: rest) a w := by
  refine wpList_putG (E := EH) hg mo x vo 131 hop Tryz.underlying3 Tryz.underlying131 hm h (by unfold maxLen; omega) id hi hx (show EH.α from y) trivial hv fun w' h1 h2 => by
    rw [hd]
    exact hK w' h1 h2
end
theorem MapH.put {w : World} {b m : Nat} {g : Int → Option Hd} (h : MapH w b m g) (hn : m ≤ 1000000) {id : Int} (hi : I64 id) (y : Hd) :
    ∃ w', (Instr.mapUpdate 131 (.map (some b)) (.int .i64 id) (hdv y)).run Tryz.prog w = .ok () w' ∧ MapH w' b (if (g id).isSome then m else m + 1) (updG g id (some y)) ∧ w.grownBy w' (some b) :=
  MapG.store (E := EH) h Tryz.underlying3 Tryz.underlying131 (by unfold maxLen; omega) hi y trivial
theorem OwnI.hd {w : World} {B : Nat} {v : Value} {l : List Int} (h : OwnI w B v l) : ∃ x : Hd, v = hdv x ∧ x.n = l.length := by
  rcases h.2 with ⟨rfl, h0⟩ | ⟨g, cap, cur, rfl, _⟩
  · exact ⟨hd0, rfl, h0.symm⟩
  · exact ⟨⟨some g, l.length, cap⟩, rfl, rfl⟩
end Go.Proofs.YthchkhgimnchcaaGreat
